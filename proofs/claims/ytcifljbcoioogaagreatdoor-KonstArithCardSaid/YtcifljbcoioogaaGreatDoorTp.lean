/-
  The reference's Eval: operators of two as a whole; every tree.
-/
import Derived.Test.YtcifljbcoioogaaGreatDoorTq
namespace Go.Proofs.YtcifljbcoioogaaGreatDoor
open Go.RowKit Go.Lib Go.Maps
theorem ofB_in (b : Bool) : InR (ofB b) := by cases b <;> exact ⟨by decide, by decide⟩
theorem rawB_op {h : XH} {x y : KR} {op : List UInt8} (hk : h.k = 4) (h0 : x.e = 0) (hy : y.e = 0) (hs : h.s.toList = op) (n1 : op ≠ [38, 38]) (n2 : op ≠ [124, 124]) :
    rawB h x y = if pmt op y.n then okR (opV op x.n y.n) else badR h 3 := by
  unfold rawB
  rw [if_pos hk, if_neg (by simpa using h0), hs, if_neg n1, if_neg n2, if_neg (by simpa using hy)]
theorem rawB_land {h : XH} {x y : KR} (hk : h.k = 4) (h0 : x.e = 0) (hs : h.s.toList = [38, 38]) : rawB h x y = if x.n = 0 then okR 0 else if y.e ≠ 0 then y else okR (ofB (decide (y.n ≠ 0))) := by
  unfold rawB
  rw [if_pos hk, if_neg (by simpa using h0), hs, if_pos rfl]
theorem rawB_lor {h : XH} {x y : KR} (hk : h.k = 4) (h0 : x.e = 0) (hs : h.s.toList = [124, 124]) : rawB h x y = if x.n ≠ 0 then okR 1 else if y.e ≠ 0 then y else okR (ofB (decide (y.n ≠ 0))) := by
  unfold rawB
  rw [if_pos hk, if_neg (by simpa using h0), hs, if_neg (by decide), if_pos rfl]
theorem rawB_y {h : XH} {x y : KR} {op : List UInt8} (hk : h.k = 4) (h0 : x.e = 0) (hy : y.e ≠ 0) (hs : h.s.toList = op) (n1 : op ≠ [38, 38]) (n2 : op ≠ [124, 124]) : rawB h x y = y := by
  unfold rawB
  rw [if_pos hk, if_neg (by simpa using h0), hs, if_neg n1, if_neg n2, if_pos hy]
theorem rawB_x {h : XH} {x y : KR} (hk : h.k = 4) (h0 : x.e ≠ 0) : rawB h x y = x := by
  unfold rawB
  rw [if_pos hk, if_pos h0]
theorem rev_b4 (h : XH) (t1 t2 : XT) (E : Option Addr) (l : List NE) (ec : Nat) (A : Option Addr) (c : Nat) (w : World) (hN : NOk w E l) (hX : XAr w w.heap.size (.b h t1 t2) A) (hW : WX (.b h t1 t2)) (hk : h.k = 4) (i1 : ROk E l ec t1) (i2 : ROk E l ec t2) :
    Calls Tryz.prog 12 #[xv h A 2 c, .slice E l.length ec] w (RE w (ev (lookN l) (.b h t1 t2))) := by
  obtain ⟨b, o, rfl, hb, ⟨A1, c1, x1, y1⟩, A2, c2, x2, y2⟩ := hX
  have e1 := fun W (q : Below w.heap.size w W) => i1 A1 c1 W (hN.over q) ((y1.over q).mono q.size) hW.2.1
  have e2 := fun W (q : Below w.heap.size w W) => i2 A2 c2 W (hN.over q) ((y2.over q).mono q.size) hW.2.2
  have ix := ev_in (lookN l) t1
  have iy := ev_in (lookN l) t2
  have cx := chk_ev h (lookN l) t1
  have cy := chk_ev h (lookN l) t2
  have hop : h.s.toList ∈ bin19 ∨ h.s.toList = [38, 38] ∨ h.s.toList = [124, 124] := by
    rcases hW.1 with ⟨_, h1⟩ | h1 | h1 | h1 | h1
    · exact h1
    all_goals (rw [hk] at h1; exact absurd h1 (by decide))
  show Calls _ _ _ _ (RE w (chk h (rawB h (ev (lookN l) t1) (ev (lookN l) t2))))
  obtain ⟨x, hx⟩ : ∃ x, ev (lookN l) t1 = x := ⟨_, rfl⟩
  obtain ⟨y, hy⟩ : ∃ y, ev (lookN l) t2 = y := ⟨_, rfl⟩
  rw [hx] at e1 ix cx ⊢
  rw [hy] at e2 iy cy ⊢
  clear i1 i2 y1 y2 hx hy hW
  obtain ⟨k, f, ln, cc, s⟩ := h
  simp only at hk hop
  by_cases h0 : x.e = 0
  · have hi := ix h0
    rcases hop with hop | hop | hop
    · by_cases g0 : y.e = 0
      · have hj := iy g0
        simp only [bin19, List.mem_cons, List.not_mem_nil, or_false] at hop
        rcases hop with hop | hop | hop | hop | hop | hop | hop | hop | hop | hop | hop | hop | hop | hop | hop | hop | hop | hop | hop
        · -- [43]
          rw [rawB_op (op := [43]) hk h0 g0 hop (by decide) (by decide), if_pos (show pmt [43] y.n = true from rfl)]
          exact rev_b_add k f ln cc s _ _ _ _ _ _ _ _ b o E c _ ec w _ _ hk x1 x2 hb h0 g0 hi hj hop e1 e2
        · -- [45]
          rw [rawB_op (op := [45]) hk h0 g0 hop (by decide) (by decide), if_pos (show pmt [45] y.n = true from rfl)]
          exact rev_b_sub k f ln cc s _ _ _ _ _ _ _ _ b o E c _ ec w _ _ hk x1 x2 hb h0 g0 hi hj hop e1 e2
        · -- [42]
          rw [rawB_op (op := [42]) hk h0 g0 hop (by decide) (by decide), if_pos (show pmt [42] y.n = true from rfl)]
          exact rev_b_mul k f ln cc s _ _ _ _ _ _ _ _ b o E c _ ec w _ _ hk x1 x2 hb h0 g0 hi hj hop e1 e2
        · -- [47]
          rw [rawB_op (op := [47]) hk h0 g0 hop (by decide) (by decide)]
          by_cases hz : y.n = 0
          · rw [if_neg (by show ¬ decide (y.n ≠ 0) = true; simpa using hz), chk_bad _ _ _ (by decide)]
            exact rev_b_div0 k f ln cc s _ _ _ _ _ _ _ _ b o E c _ ec w _ _ hk x1 x2 hb h0 g0 hi hj hop hz e1 e2
          · rw [if_pos (by show decide (y.n ≠ 0) = true; simpa using hz)]
            by_cases sx : x.n < 0 <;> by_cases sy : y.n < 0
            · exact rev_b_quo11 k f ln cc s _ _ _ _ _ _ _ _ b o E c _ ec w _ _ hk x1 x2 hb h0 g0 hi hj hop hz sx sy e1 e2
            · exact rev_b_quo10 k f ln cc s _ _ _ _ _ _ _ _ b o E c _ ec w _ _ hk x1 x2 hb h0 g0 hi hj hop hz sx sy e1 e2
            · exact rev_b_quo01 k f ln cc s _ _ _ _ _ _ _ _ b o E c _ ec w _ _ hk x1 x2 hb h0 g0 hi hj hop hz sx sy e1 e2
            · exact rev_b_quo00 k f ln cc s _ _ _ _ _ _ _ _ b o E c _ ec w _ _ hk x1 x2 hb h0 g0 hi hj hop hz sx sy e1 e2
        · -- [37]
          rw [rawB_op (op := [37]) hk h0 g0 hop (by decide) (by decide)]
          by_cases hz : y.n = 0
          · rw [if_neg (by show ¬ decide (y.n ≠ 0) = true; simpa using hz), chk_bad _ _ _ (by decide)]
            exact rev_b_mod0 k f ln cc s _ _ _ _ _ _ _ _ b o E c _ ec w _ _ hk x1 x2 hb h0 g0 hi hj hop hz e1 e2
          · rw [if_pos (by show decide (y.n ≠ 0) = true; simpa using hz)]
            by_cases sx : x.n < 0 <;> by_cases sy : y.n < 0
            · exact rev_b_rem11 k f ln cc s _ _ _ _ _ _ _ _ b o E c _ ec w _ _ hk x1 x2 hb h0 g0 hi hj hop hz sx sy e1 e2
            · exact rev_b_rem10 k f ln cc s _ _ _ _ _ _ _ _ b o E c _ ec w _ _ hk x1 x2 hb h0 g0 hi hj hop hz sx sy e1 e2
            · exact rev_b_rem01 k f ln cc s _ _ _ _ _ _ _ _ b o E c _ ec w _ _ hk x1 x2 hb h0 g0 hi hj hop hz sx sy e1 e2
            · exact rev_b_rem00 k f ln cc s _ _ _ _ _ _ _ _ b o E c _ ec w _ _ hk x1 x2 hb h0 g0 hi hj hop hz sx sy e1 e2
        · -- [38]
          rw [rawB_op (op := [38]) hk h0 g0 hop (by decide) (by decide), if_pos (show pmt [38] y.n = true from rfl)]
          exact rev_b_and k f ln cc s _ _ _ _ _ _ _ _ b o E c _ ec w _ _ hk x1 x2 hb h0 g0 hi hj hop e1 e2
        · -- [124]
          rw [rawB_op (op := [124]) hk h0 g0 hop (by decide) (by decide), if_pos (show pmt [124] y.n = true from rfl)]
          exact rev_b_or k f ln cc s _ _ _ _ _ _ _ _ b o E c _ ec w _ _ hk x1 x2 hb h0 g0 hi hj hop e1 e2
        · -- [94]
          rw [rawB_op (op := [94]) hk h0 g0 hop (by decide) (by decide), if_pos (show pmt [94] y.n = true from rfl)]
          exact rev_b_xor k f ln cc s _ _ _ _ _ _ _ _ b o E c _ ec w _ _ hk x1 x2 hb h0 g0 hi hj hop e1 e2
        · -- [126, 94]
          rw [rawB_op (op := [126, 94]) hk h0 g0 hop (by decide) (by decide), if_pos (show pmt [126, 94] y.n = true from rfl)]
          exact rev_b_xnor k f ln cc s _ _ _ _ _ _ _ _ b o E c _ ec w _ _ hk x1 x2 hb h0 g0 hi hj hop e1 e2
        · -- [60, 60]
          rw [rawB_op (op := [60, 60]) hk h0 g0 hop (by decide) (by decide)]
          by_cases hz : 0 ≤ y.n ∧ y.n ≤ 31
          · rw [if_pos (by show decide (0 ≤ y.n ∧ y.n ≤ 31) = true; simpa using hz)]
            exact rev_b_shl k f ln cc s _ _ _ _ _ _ _ _ b o E c _ ec w _ _ hk x1 x2 hb h0 g0 hi hj hop hz e1 e2
          · rw [if_neg (by show ¬ decide (0 ≤ y.n ∧ y.n ≤ 31) = true; simpa using hz), chk_bad _ _ _ (by decide)]
            by_cases hn : y.n < 0
            · exact rev_b_shl_neg k f ln cc s _ _ _ _ _ _ _ _ b o E c _ ec w _ _ hk x1 x2 hb h0 g0 hi hj hop hn e1 e2
            · exact rev_b_shl_big k f ln cc s _ _ _ _ _ _ _ _ b o E c _ ec w _ _ hk x1 x2 hb h0 g0 hi hj hop (by omega) e1 e2
        · -- [62, 62]
          rw [rawB_op (op := [62, 62]) hk h0 g0 hop (by decide) (by decide)]
          by_cases hz : 0 ≤ y.n ∧ y.n ≤ 31
          · rw [if_pos (by show decide (0 ≤ y.n ∧ y.n ≤ 31) = true; simpa using hz)]
            by_cases hl : x.n < x.n.tdiv (2 ^ y.n.toNat) * 2 ^ y.n.toNat
            · exact rev_b_shr1 k f ln cc s _ _ _ _ _ _ _ _ b o E c _ ec w _ _ hk x1 x2 hb h0 g0 hi hj hop hz hl e1 e2
            · exact rev_b_shr0 k f ln cc s _ _ _ _ _ _ _ _ b o E c _ ec w _ _ hk x1 x2 hb h0 g0 hi hj hop hz hl e1 e2
          · rw [if_neg (by show ¬ decide (0 ≤ y.n ∧ y.n ≤ 31) = true; simpa using hz), chk_bad _ _ _ (by decide)]
            by_cases hn : y.n < 0
            · exact rev_b_shr_neg k f ln cc s _ _ _ _ _ _ _ _ b o E c _ ec w _ _ hk x1 x2 hb h0 g0 hi hj hop hn e1 e2
            · exact rev_b_shr_big k f ln cc s _ _ _ _ _ _ _ _ b o E c _ ec w _ _ hk x1 x2 hb h0 g0 hi hj hop (by omega) e1 e2
        · -- [60, 60, 60]
          rw [rawB_op (op := [60, 60, 60]) hk h0 g0 hop (by decide) (by decide)]
          by_cases hz : 0 ≤ y.n ∧ y.n ≤ 31
          · rw [if_pos (by show decide (0 ≤ y.n ∧ y.n ≤ 31) = true; simpa using hz)]
            exact rev_b_shla k f ln cc s _ _ _ _ _ _ _ _ b o E c _ ec w _ _ hk x1 x2 hb h0 g0 hi hj hop hz e1 e2
          · rw [if_neg (by show ¬ decide (0 ≤ y.n ∧ y.n ≤ 31) = true; simpa using hz), chk_bad _ _ _ (by decide)]
            by_cases hn : y.n < 0
            · exact rev_b_shla_neg k f ln cc s _ _ _ _ _ _ _ _ b o E c _ ec w _ _ hk x1 x2 hb h0 g0 hi hj hop hn e1 e2
            · exact rev_b_shla_big k f ln cc s _ _ _ _ _ _ _ _ b o E c _ ec w _ _ hk x1 x2 hb h0 g0 hi hj hop (by omega) e1 e2
        · -- [62, 62, 62]
          rw [rawB_op (op := [62, 62, 62]) hk h0 g0 hop (by decide) (by decide)]
          by_cases hz : 0 ≤ y.n ∧ y.n ≤ 31
          · rw [if_pos (by show decide (0 ≤ y.n ∧ y.n ≤ 31) = true; simpa using hz)]
            by_cases hl : x.n < x.n.tdiv (2 ^ y.n.toNat) * 2 ^ y.n.toNat
            · exact rev_b_shra1 k f ln cc s _ _ _ _ _ _ _ _ b o E c _ ec w _ _ hk x1 x2 hb h0 g0 hi hj hop hz hl e1 e2
            · exact rev_b_shra0 k f ln cc s _ _ _ _ _ _ _ _ b o E c _ ec w _ _ hk x1 x2 hb h0 g0 hi hj hop hz hl e1 e2
          · rw [if_neg (by show ¬ decide (0 ≤ y.n ∧ y.n ≤ 31) = true; simpa using hz), chk_bad _ _ _ (by decide)]
            by_cases hn : y.n < 0
            · exact rev_b_shra_neg k f ln cc s _ _ _ _ _ _ _ _ b o E c _ ec w _ _ hk x1 x2 hb h0 g0 hi hj hop hn e1 e2
            · exact rev_b_shra_big k f ln cc s _ _ _ _ _ _ _ _ b o E c _ ec w _ _ hk x1 x2 hb h0 g0 hi hj hop (by omega) e1 e2
        · -- [60]
          rw [rawB_op (op := [60]) hk h0 g0 hop (by decide) (by decide), if_pos (show pmt [60] y.n = true from rfl)]
          rw [show chk ⟨k, f, ln, cc, s⟩ (okR (opV [60] x.n y.n)) = okR (opV [60] x.n y.n) from chk_in (ofB_in _)]
          exact rev_b_lt k f ln cc s _ _ _ _ _ _ _ _ b o E c _ ec w _ _ hk x1 x2 hb h0 g0 hi hj hop e1 e2
        · -- [60, 61]
          rw [rawB_op (op := [60, 61]) hk h0 g0 hop (by decide) (by decide), if_pos (show pmt [60, 61] y.n = true from rfl)]
          rw [show chk ⟨k, f, ln, cc, s⟩ (okR (opV [60, 61] x.n y.n)) = okR (opV [60, 61] x.n y.n) from chk_in (ofB_in _)]
          exact rev_b_le k f ln cc s _ _ _ _ _ _ _ _ b o E c _ ec w _ _ hk x1 x2 hb h0 g0 hi hj hop e1 e2
        · -- [62]
          rw [rawB_op (op := [62]) hk h0 g0 hop (by decide) (by decide), if_pos (show pmt [62] y.n = true from rfl)]
          rw [show chk ⟨k, f, ln, cc, s⟩ (okR (opV [62] x.n y.n)) = okR (opV [62] x.n y.n) from chk_in (ofB_in _)]
          exact rev_b_gt k f ln cc s _ _ _ _ _ _ _ _ b o E c _ ec w _ _ hk x1 x2 hb h0 g0 hi hj hop e1 e2
        · -- [62, 61]
          rw [rawB_op (op := [62, 61]) hk h0 g0 hop (by decide) (by decide), if_pos (show pmt [62, 61] y.n = true from rfl)]
          rw [show chk ⟨k, f, ln, cc, s⟩ (okR (opV [62, 61] x.n y.n)) = okR (opV [62, 61] x.n y.n) from chk_in (ofB_in _)]
          exact rev_b_ge k f ln cc s _ _ _ _ _ _ _ _ b o E c _ ec w _ _ hk x1 x2 hb h0 g0 hi hj hop e1 e2
        · -- [61, 61]
          rw [rawB_op (op := [61, 61]) hk h0 g0 hop (by decide) (by decide), if_pos (show pmt [61, 61] y.n = true from rfl)]
          rw [show chk ⟨k, f, ln, cc, s⟩ (okR (opV [61, 61] x.n y.n)) = okR (opV [61, 61] x.n y.n) from chk_in (ofB_in _)]
          exact rev_b_eq k f ln cc s _ _ _ _ _ _ _ _ b o E c _ ec w _ _ hk x1 x2 hb h0 g0 hi hj hop e1 e2
        · -- [33, 61]
          rw [rawB_op (op := [33, 61]) hk h0 g0 hop (by decide) (by decide), if_pos (show pmt [33, 61] y.n = true from rfl)]
          rw [show chk ⟨k, f, ln, cc, s⟩ (okR (opV [33, 61] x.n y.n)) = okR (opV [33, 61] x.n y.n) from chk_in (ofB_in _)]
          exact rev_b_ne k f ln cc s _ _ _ _ _ _ _ _ b o E c _ ec w _ _ hk x1 x2 hb h0 g0 hi hj hop e1 e2
      · have n1 : s.toList ≠ [38, 38] := fun e => by rw [e] at hop; exact absurd hop (by decide)
        have n2 : s.toList ≠ [124, 124] := fun e => by rw [e] at hop; exact absurd hop (by decide)
        rw [rawB_y (op := s.toList) hk h0 g0 rfl n1 n2, cy]
        exact rev_b_yerr k f ln cc s _ _ _ _ _ _ _ _ b o E c _ ec w _ _ hk x1 x2 hb h0 (by simpa using n1) (by simpa using n2) g0 e1 e2
    · rw [rawB_land hk h0 hop]
      by_cases hz : x.n = 0
      · rw [if_pos hz, chk_in ⟨by decide, by decide⟩]
        exact rev_b_land0 k f ln cc s _ _ _ _ _ _ _ _ b o E c _ ec w _ _ hk x1 x2 hb h0 hop hz e1 e2
      · rw [if_neg hz]
        by_cases g0 : y.e = 0
        · rw [if_neg (by simpa using g0), chk_in (ofB_in _)]
          exact rev_b_land k f ln cc s _ _ _ _ _ _ _ _ b o E c _ ec w _ _ hk x1 x2 hb h0 hop g0 hz e1 e2
        · rw [if_pos g0, cy]
          exact rev_b_land_y k f ln cc s _ _ _ _ _ _ _ _ b o E c _ ec w _ _ hk x1 x2 hb h0 hop hz g0 e1 e2
    · rw [rawB_lor hk h0 hop]
      by_cases hz : x.n = 0
      · rw [if_neg (by simpa using hz)]
        by_cases g0 : y.e = 0
        · rw [if_neg (by simpa using g0), chk_in (ofB_in _)]
          exact rev_b_lor k f ln cc s _ _ _ _ _ _ _ _ b o E c _ ec w _ _ hk x1 x2 hb h0 hop g0 hz e1 e2
        · rw [if_pos g0, cy]
          exact rev_b_lor_y k f ln cc s _ _ _ _ _ _ _ _ b o E c _ ec w _ _ hk x1 x2 hb h0 hop hz g0 e1 e2
      · rw [if_pos hz, chk_in ⟨by decide, by decide⟩]
        exact rev_b_lor1 k f ln cc s _ _ _ _ _ _ _ _ b o E c _ ec w _ _ hk x1 x2 hb h0 hop hz e1 e2
  · rw [rawB_x hk h0, cx]
    exact rev_b_xerr k f ln cc s _ _ _ _ _ _ _ _ b o E c _ ec w _ _ hk x1 x2 hb h0 e1 e2
theorem rev_all (E : Option Addr) (l : List NE) (ec : Nat) : ∀ t : XT, ROk E l ec t
  | .z h => fun A c w hN _ hW => rev_z h E l ec A c w hN hW
  | .u h t1 => fun A c w hN hX hW => rev_u h t1 E l ec A c w hN hX hW (rev_all E l ec t1)
  | .b h t1 t2 => fun A c w hN hX hW => by
    by_cases hk : h.k = 4
    · exact rev_b4 h t1 t2 E l ec A c w hN hX hW hk (rev_all E l ec t1) (rev_all E l ec t2)
    · have h6 : 6 ≤ h.k := by
        rcases hW.1 with ⟨h1, _⟩ | h1 | h1 | h1 | h1 <;> omega
      have e : ev (lookN l) (.b h t1 t2) = badR h 12 := by
        show chk h (rawB h _ _) = _
        unfold rawB
        rw [if_neg hk, chk_bad _ _ _ (by decide)]
      rw [e]
      exact rev_def h.k h.f h.l h.c h.s A E 2 c _ ec w h6
  | .t h t1 t2 t3 => fun A c w hN hX hW => by
    by_cases hk : h.k = 5
    · exact rev_t h t1 t2 t3 E l ec A c w hN hX hW hk (rev_all E l ec t1) (rev_all E l ec t2) (rev_all E l ec t3)
    · have h6 : 6 ≤ h.k := by
        rcases hW.1 with h1 | h1 | h1 <;> omega
      have e : ev (lookN l) (.t h t1 t2 t3) = badR h 12 := by
        show chk h (rawT h _ _ _) = _
        unfold rawT
        rw [if_neg hk, chk_bad _ _ _ (by decide)]
      rw [e]
      exact rev_def h.k h.f h.l h.c h.s A E 3 c _ ec w h6
end Go.Proofs.YtcifljbcoioogaaGreatDoor

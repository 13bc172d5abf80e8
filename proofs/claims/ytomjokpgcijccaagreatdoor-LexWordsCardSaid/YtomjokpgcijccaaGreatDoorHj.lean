/-
  The walk of lex's Text.
-/
import Derived.Test.YtomjokpgcijccaaGreatDoorHi
namespace Go.Proofs.YtomjokpgcijccaaGreatDoor
open Go.RowKit Go.Lib
/-- Words lie in a slice. -/
def TLr (w : World) (A : Option Addr) (l : List TK) : Prop := 0 < l.length → ∃ b off : Nat, A = some ⟨b, off, none⟩ ∧ b < w.heap.size ∧ ∀ j (hj : j < l.length),
  w.cell? ⟨b, off + j * 5, none⟩ = some (.int .i64 (l[j].k : Int)) ∧ w.cell? ⟨b, off + j * 5 + 1, none⟩ = some (.string (tx l[j].t)) ∧ w.cell? ⟨b, off + j * 5 + 2, none⟩ = some (.int .i64 l[j].p.f) ∧ w.cell? ⟨b, off + j * 5 + 3, none⟩ = some (.int .i64 l[j].p.l) ∧ w.cell? ⟨b, off + j * 5 + 4, none⟩ = some (.int .i64 l[j].p.c)
theorem TLr.over {w w' : World} {A : Option Addr} {l : List TK} (h : TLr w A l) (k : Below w.heap.size w w') : TLr w' A l := fun h0 => by
  obtain ⟨b, off, e, hb, hc⟩ := h h0
  refine ⟨b, off, e, Nat.lt_of_lt_of_le hb k.size, fun j hj => ?_⟩
  obtain ⟨c0, c1, c2, c3, c4⟩ := hc j hj
  exact ⟨(k.cell (p := ⟨b, _, none⟩) hb).trans c0, (k.cell (p := ⟨b, _, none⟩) hb).trans c1, (k.cell (p := ⟨b, _, none⟩) hb).trans c2, (k.cell (p := ⟨b, _, none⟩) hb).trans c3, (k.cell (p := ⟨b, _, none⟩) hb).trans c4⟩
theorem tcs_get : ∀ (l : List TK) (j : Nat) (hj : j < l.length), (tcs l)[j * 5]? = some (.int .i64 (l[j].k : Int)) ∧ (tcs l)[j * 5 + 1]? = some (.string (tx l[j].t)) ∧ (tcs l)[j * 5 + 2]? = some (.int .i64 l[j].p.f) ∧ (tcs l)[j * 5 + 3]? = some (.int .i64 l[j].p.l) ∧ (tcs l)[j * 5 + 4]? = some (.int .i64 l[j].p.c)
  | [], j, hj => by simp at hj
  | x :: l, 0, hj => by
    have e : tcs (x :: l) = .int .i64 (x.k : Int) :: .string (tx x.t) :: .int .i64 x.p.f :: .int .i64 x.p.l :: .int .i64 x.p.c :: tcs l := rfl
    rw [e]
    exact ⟨rfl, rfl, rfl, rfl, rfl⟩
  | x :: l, j + 1, hj => by
    have e : tcs (x :: l) = .int .i64 (x.k : Int) :: .string (tx x.t) :: .int .i64 x.p.f :: .int .i64 x.p.l :: .int .i64 x.p.c :: tcs l := rfl
    have ih := tcs_get l j (by simpa using hj)
    rw [e, show (j + 1) * 5 = j * 5 + 5 by omega]
    simpa only [List.getElem?_cons_succ, List.getElem_cons_succ] using ih
theorem own_TLr {w : World} {B n c : Nat} {A : Option Addr} {l : List TK} (h : w.ownsRow B 37 5 (.slice A n c) l.length (tcs l)) : TLr w A l ∧ n = l.length ∧ l.length ≤ c ∧ (∀ ad, A = some ad → ad.off = 0 ∧ B ≤ ad.block ∧ ad.block < w.heap.size) := by
  rcases h.2 with ⟨e, h0⟩ | ⟨g, cap, cur, e, hb, hg, h1, h2, h3, h4⟩
  · cases e
    exact ⟨fun hp => by omega, h0.symm, by omega, fun ad h => by cases h⟩
  · cases e
    have hgl := (Array.getElem?_eq_some_iff.1 hg).1
    refine ⟨fun hp => ⟨g, 0, rfl, hgl, fun j hj => ?_⟩, rfl, h1, fun ad h => by cases h; exact ⟨rfl, hb, hgl⟩⟩
    have hcell : ∀ (o : Nat) (v : Value), (tcs l)[o]? = some v → w.cell? ⟨g, 0 + o, none⟩ = some v := fun o v hv => by
      rw [← h4] at hv
      rw [List.getElem?_take] at hv
      split at hv
      · simpa [World.cell?, hg] using hv
      · cases hv
    obtain ⟨t0, t1, t2, t3, t4⟩ := tcs_get l j hj
    exact ⟨hcell _ _ t0, hcell _ _ t1, hcell _ _ t2, hcell _ _ t3, hcell _ _ t4⟩
theorem info_str : (Tryz.prog.info? 9).map (fun i => (i.zero, i.size, i.bytes)) = some (some (.string ⟨#[]⟩), 1, 16) := by kernel_rfl
def strC (l : List TK) (k j : Nat) : Value := if j < k then .string (tx ((l.map TK.t).getD j [])) else .string ⟨#[]⟩
set_option maxRecDepth 100000 in
set_option maxHeartbeats 3200000 in
theorem Text_t (A : Option Addr) (c : Nat) (l : List TK) (w : World) (h : TLr w A l) (hn : l.length ≤ 1000000000) (hj : (Lib.join (l.map TK.t) [32]).length ≤ 140737488355328) :
    Calls Tryz.prog 8 #[.slice A l.length c] w (RV w (.string (tx (Lib.join (l.map TK.t) [32])))) := by
  obtain ⟨n, hne⟩ : ∃ n, l.length = n := ⟨_, rfl⟩
  rw [hne] at hn ⊢
  have hJ := fun (W : World) (bk : Nat) (R : W.rowIs bk 9 n (strC l n)) => Tryz.strings_Join bk 0 n (l.map fun x => tx x.t) ⟨#[32]⟩ W (fun j x hx => by
    have hjn : j < n := by
      have := (List.getElem?_eq_some_iff.1 hx).1
      simpa [hne] using this
    have := R.cell hjn
    rw [Nat.zero_add, this]
    unfold strC
    rw [if_pos hjn]
    have hjl : j < l.length := by omega
    rw [List.getElem?_map, List.getElem?_eq_getElem hjl] at hx
    cases hx
    rw [List.getD_eq_getElem?_getD, List.getElem?_map, List.getElem?_eq_getElem hjl]
    rfl) R.lt (by simp; omega) (by simp; omega) (by rw [List.map_map]; exact hj)
  have hmap : (l.map fun x => tx x.t).map (·.data.toList) = l.map TK.t := by rw [List.map_map]; rfl
  have hml : (l.map fun x => tx x.t).length = n := by rw [List.length_map]; exact hne
  rw [hmap, hml] at hJ
  obtain ⟨J, hJe⟩ : ∃ J : ByteArray, tx (Lib.join (l.map TK.t) [32]) = J := ⟨_, rfl⟩
  have hJ' : ∀ (W : World) (bk : Nat), W.rowIs bk 9 n (strC l n) → Calls Tryz.prog 12 #[.slice (some ⟨bk, 0, none⟩) n n, .string ⟨#[32]⟩] W fun e w' => e = .returned (.string J) ∧ Below W.heap.size W w' := hJe ▸ hJ
  rw [hJe]
  have hmk := run_make_row' 50 9 (.string ⟨#[]⟩) 16 Tryz.underlying50 info_str rfl .i64 .i64 n (by omega) (by omega)
  have R0 := World.rowIs_made w (.string ⟨#[]⟩) n 9
  have hbA : Below w.heap.size w (w.alloc (.cells (madeCells #[.string ⟨#[]⟩] n) 9)) := (Below.refl _ w).alloc (Nat.le_refl _) _
  replace hJ' := Lib.hid hJ'
  replace h := Lib.hid h
  replace R0 := Lib.hid R0
  replace hbA := Lib.hid hbA
  replace hne := Lib.hid hne
  clear hJ hmap hml hJe hj
  go_enter Tryz.func8, Tryz.ntmps8
  go_wp2_with fail
  go_loopw [11] (fun iv wr => ∃ k : Nat, k ≤ n ∧ iv = .int .i64 (k : Int) ∧ wr.rowIs w.heap.size 9 n (strC l k) ∧ Below w.heap.size w wr) (fun iv _ => n - (RowKit.intOf iv).toNat)
  case atStart => exact ⟨0, Nat.zero_le _, rfl, World.rowIs.congr R0.out fun j hj => by unfold strC; simp, hbA.out⟩
  case round =>
    obtain ⟨k, hk, rfl, R, hbw⟩ := hrel
    clear hmk R0 hbA
    by_cases hlt : k < n
    · have hkl : k < l.length := by rw [hne.out]; exact hlt
      obtain ⟨b, off, rfl, hb, hc⟩ := (h.out.over hbw) (by omega)
      obtain ⟨c0, c1, c2, c3, c4⟩ := hc k hkl
      have hget : (l.map TK.t).getD k [] = l[k].t := by rw [List.getD_eq_getElem?_getD, List.getElem?_map, List.getElem?_eq_getElem hkl]; rfl
      have hset : ∀ j, j < n → (if j = k then Value.string (tx l[k].t) else strC l k j) = strC l (k + 1) j := fun j hj => by
        unfold strC
        by_cases hj1 : j = k
        · subst hj1; rw [if_pos rfl, if_pos (by omega), hget]
        · rw [if_neg hj1]
          by_cases hj2 : j < k
          · rw [if_pos hj2, if_pos (by omega)]
          · rw [if_neg hj2, if_neg (by omega)]
      generalize l[k] = x at *
      obtain ⟨T, hT⟩ : ∃ T, tx x.t = T := ⟨_, rfl⟩
      rw [hT] at c1 hset
      have K0 := (C5.new wr 37 (.int .i64 (x.k : Int)) (.string T) (.int .i64 x.p.f) (.int .i64 x.p.l) (.int .i64 x.p.c)).all
      have RA := R.alloc (.cells #[.int .i64 (x.k : Int), .string T, .int .i64 x.p.f, .int .i64 x.p.l, .int .i64 x.p.c] 37)
      have hra := RA.cell hlt
      have hrf := RA.frozen
      have hbB := hbw.alloc hbw.size (.cells #[.int .i64 (x.k : Int), .string T, .int .i64 x.p.f, .int .i64 x.p.l, .int .i64 x.p.c] 37)
      replace hset := Lib.hid hset
      replace RA := Lib.hid RA
      replace hbB := Lib.hid hbB
      replace hbw := Lib.hid hbw
      replace R := Lib.hid R
      clear hc hT hget hkl
      go_wp2_with fail
      go_roundw
      case rel => exact ⟨k + 1, by omega, by go_num, World.rowIs.congr (World.rowIs.set RA.out k _) fun j hj => hset.out j hj, hbB.out.setCell (by exact Nat.le_refl _) _⟩
      case measure => simp [RowKit.intOf]; omega
    · obtain rfl : k = n := by omega
      have hJ2 := hJ'.out wr w.heap.size R
      replace hJ2 := Lib.hid hJ2
      replace hbw := Lib.hid hbw
      clear hJ' R
      go_wp2_with fail
      (with_reducible refine hJ2.out.mono ?_)
      rintro e w2 ⟨rfl, hb2⟩
      have hbw2 := below_call hb2 hbw.out
      clear hb2
      go_wp2_with fail
      go_ret
      exact ⟨rfl, hbw2⟩
end Go.Proofs.YtomjokpgcijccaaGreatDoor

/-
  MakeExpr whole: of whatever depth, a tree that is as it should be.
  Short; the expressions of KonstWays and what Eval says of them; the state behind the statements' beginning.
-/
import Derived.Test.YtdjaikglkgabdaaGreatDoorVh
import Derived.Test.YtdjaikglkgabdaaGreatDoorVi
import Derived.Test.YtdjaikglkgabdaaGreatDoorVk
import Derived.Test.YtdjaikglkgabdaaGreatDoorXs
namespace Go.Proofs.YtdjaikglkgabdaaGreatDoor
open Go.RowKit Go.Lib
set_option maxRecDepth 100000 in
set_option maxHeartbeats 1600000 in
theorem Next_d (p B n : Nat) (w : World) (hn : 0 < n) (hn2 : n ≤ 1000) (hM : MKm w p B) : ∃ r : Nat, r < n ∧ Calls Tryz.prog 24 #[.pointer (some ⟨p, 0, none⟩), .int .i64 (n : Int)] w fun e w' => e = .returned (.int .i64 (r : Int)) ∧ MKm w' p B ∧ Keep (· = p) w w' := by
  have hM0 := hM
  obtain ⟨hpB, hBs, A, m, c, k, hg, hk, hm, hd⟩ := hM
  have hpl := lt_of_get hg
  have c0 : w.cell? ⟨p, 0, none⟩ = some (.slice A m c) := by rw [Lib.cell_of_heap hg]; rfl
  have c1 : w.cell? ⟨p, 1, none⟩ = some (.int .i64 (k : Int)) := by rw [Lib.cell_of_heap hg]; rfl
  have cf : ∀ i, w.frozen? ⟨p, i, none⟩ = false := fun i => Lib.frozen_of_heap hg i
  by_cases h0 : k < m
  · obtain ⟨b, o, rfl, hbp, hbl, hc⟩ := hd (by omega)
    obtain ⟨u, hu, cu⟩ := hc k h0
    have hN1 : MKm (w.setCell ⟨p, 1, none⟩ (.int .i64 (((k + 1 : Nat) : Int)))) p B := by
      refine ⟨hpB, by rw [World.size_setCell]; exact hBs, _, m, c, k + 1, heap_set w p 1 _ _ _ hg, by omega, hm, fun _ => ⟨b, o, rfl, hbp, hbl, fun i hi => ?_⟩⟩
      obtain ⟨v, hv, cv⟩ := hc i hi
      refine ⟨v, hv, ?_⟩
      rw [← cv]
      exact World.cell?_of_block (Below.heap_setCell w ⟨p, 1, none⟩ _ b hbp)
    have hK1 : Keep (· = p) w (w.setCell ⟨p, 1, none⟩ (.int .i64 (((k + 1 : Nat) : Int)))) := (Keep.refl (fun x => x = p) w).set ⟨p, 1, none⟩ rfl _
    have ht : ((u : Int)).tmod (n : Int) = ((u % n : Nat) : Int) := rfl
    have hr := Nat.mod_lt u hn
    obtain ⟨r, hre⟩ : ∃ r, u % n = r := ⟨_, rfl⟩
    rw [hre] at ht hr
    have hcu : (w.setCell ⟨p, 1, none⟩ (.int .i64 (((k + 1 : Nat) : Int)))).cell? ⟨b, o + k, none⟩ = some (.int .u8 (u : Int)) := (World.cell?_of_block (Below.heap_setCell w ⟨p, 1, none⟩ _ b hbp)).trans cu
    have hkw : IntKind.i64.wrap ((k : Int) + 1) = ((k + 1 : Nat) : Int) := by rw [IntWalk.i64_in _ (by omega)]; rfl
    obtain ⟨q, hq⟩ : ∃ q, k + 1 = q := ⟨_, rfl⟩
    have hq1 : IntKind.i64.wrap ((q : Int) - 1) = (k : Int) := by rw [IntWalk.i64_in _ (by omega)]; omega
    have hqm : q ≤ m := by omega
    have hnz : ¬ n = 0 := by omega
    have hnz2 : ¬ (n : Int) = 0 := by omega
    rw [hq] at hN1 hK1 hcu hkw
    have hu64 : IntKind.i64.wrap (u : Int) = (u : Int) := IntWalk.i64_in _ (by omega)
    clear hd hM0 hg hre hc hq
    replace hN1 := Lib.hid hN1
    replace hK1 := Lib.hid hK1
    have hge : decide ((m : Int) ≤ (k : Int)) = false := by simp; omega
    refine ⟨r, hr, ?_⟩
    go_enter Tryz.func24, Tryz.ntmps24
    go_wp2_with fail
    go_region
    go_wp2_with fail
    go_region
    go_wp2_with fail
    go_ret
    exact ⟨rfl, hN1.out, hK1.out.dr.dr⟩
  · have hge : decide ((m : Int) ≤ (k : Int)) = true := by simp; omega
    have hge2 : (m : Int) ≤ (k : Int) := by omega
    replace hM0 := Lib.hid hM0
    clear hd hg
    refine ⟨0, hn, ?_⟩
    go_enter Tryz.func24, Tryz.ntmps24
    go_wp2_with fail
    go_region
    go_wp2_with fail
    go_ret
    exact ⟨rfl, hM0.out.drew, ⟨rfl, rfl, rfl, Nat.le_refl _, fun _ _ _ => rfl⟩⟩
theorem MakeExpr_t (p B : Nat) : ∀ (D : Nat) (d : Int) (w : World), d ≤ D + 1 → d ≤ 1000 → MKm w p B → Calls Tryz.prog 16 #[.pointer (some ⟨p, 0, none⟩), .int .i64 d] w (MXm (D + 1) p B w) := by
  have hNx : ∀ (n : Nat) W, 0 < n → n ≤ 1000 → MKm W p B → Calls Tryz.prog 24 #[.pointer (some ⟨p, 0, none⟩), .int .i64 (n : Int)] W (NX n p B W) := fun n W h1 h2 h3 => Next_t p B n W h1 h2 h3
  intro D
  induction D with
  | zero =>
    intro d w hd h1000 hM
    exact MakeExpr_low p B 0 d w hM (by omega) hNx (fun h => by omega)
  | succ D ih =>
    intro d w hd h1000 hM
    have hEs : 1 < d → ∀ (n : Nat) W, n ≤ 3 → MKm W p B → Calls Tryz.prog 27 #[.pointer (some ⟨p, 0, none⟩), .int .i64 (d - 1), .int .i64 (n : Int)] W (MXms (D + 1) p B n W) :=
      fun _ n W hn hW => MakeExprs_t p B n (D + 1) (d - 1) W hn hW fun W' hW' => ih (d - 1) W' (by omega) (by omega) hW'
    by_cases h1 : d ≤ 1
    · exact MakeExpr_low p B (D + 1) d w hM h1 hNx hEs
    · have hd1 : 1 < d := by omega
      obtain ⟨r, hr, hC⟩ := Next_d p B 12 (w.alloc (.cells #[.int .i64 0, .int .i64 0, .int .i64 0, .int .i64 0, .string ⟨#[]⟩, .slice none 0 0] 52)) (by decide) (by decide) (hM.alloc _)
      have hrr : r = 0 ∨ r = 1 ∨ r = 2 ∨ r = 3 ∨ r = 4 ∨ r = 5 ∨ r = 6 ∨ r = 7 ∨ r = 8 ∨ r = 9 ∨ r = 10 ∨ r = 11 := by omega
      rcases hrr with rfl | rfl | rfl | rfl | rfl | rfl | rfl | rfl | rfl | rfl | rfl | rfl
      · exact MakeExpr_0 p B (D + 1) d w hM hd1 h1000 hNx hEs hC
      · exact MakeExpr_1 p B (D + 1) d w hM hd1 h1000 hNx hEs hC
      · exact MakeExpr_2 p B (D + 1) d w hM hd1 h1000 hNx hEs hC
      · exact MakeExpr_3 p B (D + 1) d w hM hd1 h1000 hNx hEs hC
      · exact MakeExpr_4 p B (D + 1) d w hM hd1 h1000 hNx hEs hC
      · exact MakeExpr_5 p B (D + 1) d w hM hd1 h1000 hNx hEs hC
      · exact MakeExpr_6 p B (D + 1) d w hM hd1 h1000 hNx hEs hC
      · exact MakeExpr_7 p B (D + 1) d w hM hd1 h1000 hNx hEs hC
      · exact MakeExpr_8 p B (D + 1) d w hM hd1 h1000 hNx hEs hC
      · exact MakeExpr_9 p B (D + 1) d w hM hd1 h1000 hNx hEs hC
      · exact MakeExpr_10 p B (D + 1) d w hM hd1 h1000 hNx hEs hC
      · exact MakeExpr_11 p B (D + 1) d w hM hd1 h1000 hNx hEs hC
end Go.Proofs.YtdjaikglkgabdaaGreatDoor
namespace Go.Proofs.YtdjaikglkgabdaaGreatDoor
open Go.RowKit Go.Lib Go.Maps
set_option maxRecDepth 100000 in
theorem Short_t (A : Option Addr) (n c : Nat) (w : World) (hc : n ≤ c) (h63 : c ≤ 9223372036854775807) (hA : 0 < n → ∃ b o : Nat, A = some ⟨b, o, none⟩) : Calls Tryz.prog 14 #[.slice A n c] w fun e w' => ∃ n' : Nat, n' ≤ n ∧ n' ≤ 300 ∧ e = .returned (.slice A n' c) ∧ w' = w := by
  by_cases h : 300 < n
  · obtain ⟨b, o, rfl⟩ := hA (by omega)
    have h1 : (300 : Int) < (n : Int) := by omega
    have h3 : 300 ≤ c := by omega
    have h4 : (300 : Int) ≤ (c : Int) := by omega
    go_enter Tryz.func14, Tryz.ntmps14
    go_wp2_with fail
    go_ret
    exact ⟨300, by omega, Nat.le_refl _, rfl, rfl⟩
  · have h1 : ¬ (300 : Int) < (n : Int) := by omega
    go_enter Tryz.func14, Tryz.ntmps14
    go_wp2_with fail
    go_ret
    exact ⟨n, Nat.le_refl _, by omega, rfl, rfl⟩
theorem cnt_dep : ∀ t : XT, t.cnt ≤ 4 ^ (t.dep + 1)
  | .z _ => by simp [XT.cnt, XT.dep]
  | .u _ x => by
    have h1 := cnt_dep x
    have h2 : 1 ≤ 4 ^ (x.dep + 1) := Nat.one_le_iff_ne_zero.2 (by simp)
    simp only [XT.cnt, XT.dep]
    rw [Nat.pow_succ 4 (x.dep + 1)]
    omega
  | .b _ x y => by
    have h1 := cnt_dep x
    have h2 := cnt_dep y
    have e1 : 4 ^ (x.dep + 1) ≤ 4 ^ (max x.dep y.dep + 1) := Nat.pow_le_pow_right (by decide) (by omega)
    have e2 : 4 ^ (y.dep + 1) ≤ 4 ^ (max x.dep y.dep + 1) := Nat.pow_le_pow_right (by decide) (by omega)
    have h3 : 1 ≤ 4 ^ (max x.dep y.dep + 1) := Nat.one_le_iff_ne_zero.2 (by simp)
    simp only [XT.cnt, XT.dep]
    rw [Nat.pow_succ 4 (max x.dep y.dep + 1)]
    omega
  | .t _ x y z => by
    have h1 := cnt_dep x
    have h2 := cnt_dep y
    have h3 := cnt_dep z
    have e1 : 4 ^ (x.dep + 1) ≤ 4 ^ (max x.dep (max y.dep z.dep) + 1) := Nat.pow_le_pow_right (by decide) (by omega)
    have e2 : 4 ^ (y.dep + 1) ≤ 4 ^ (max x.dep (max y.dep z.dep) + 1) := Nat.pow_le_pow_right (by decide) (by omega)
    have e3 : 4 ^ (z.dep + 1) ≤ 4 ^ (max x.dep (max y.dep z.dep) + 1) := Nat.pow_le_pow_right (by decide) (by omega)
    have h4 : 1 ≤ 4 ^ (max x.dep (max y.dep z.dep) + 1) := Nat.one_le_iff_ne_zero.2 (by simp)
    simp only [XT.cnt, XT.dep]
    rw [Nat.pow_succ 4 (max x.dep (max y.dep z.dep) + 1)]
    omega
/-- The name that no list has. -/
def noB : ByteArray := ⟨#[110, 111, 32, 115, 117, 99, 104, 32, 110, 97, 109, 101]⟩
def badH : XH := ⟨2, 1, 1, 99, noB⟩
def opH (k : Int) (s : ByteArray) : XH := ⟨k, 0, 0, 0, s⟩
theorem ev_bad (env : ByteArray → Option Int) (h : env noB = none) : ev env (.z badH) = ⟨0, 1, 1, 99, 9⟩ := by
  have e : rawZ env badH = badR badH 9 := by
    unfold rawZ namR
    rw [if_neg (by decide), show badH.s = noB from rfl, h]
  show chk badH (rawZ env badH) = _
  rw [e]
  rfl
theorem chk_evm (h : XH) (env : ByteArray → Option Int) (t : XT) : chk h (ev env t) = ev env t := by
  by_cases h0 : (ev env t).e = 0
  · have := ev_in env t h0
    unfold InR at this
    unfold chk
    rw [if_neg (by simpa using h0), if_neg (by omega)]
  · unfold chk; rw [if_pos h0]
theorem rawT_ok (s : ByteArray) (k : Int) (x y : KR) : rawT (opH 5 s) (okR k) x y = if k = 0 then y else x := by
  unfold rawT
  rw [if_pos (show (opH 5 s).k = 5 from rfl), if_neg (show ¬ (okR k).e ≠ 0 from fun h => h rfl)]
  by_cases h : k = 0
  · rw [if_pos h, if_neg (show ¬ (okR k).n ≠ 0 from fun h' => h' h)]
  · rw [if_neg h, if_pos (show (okR k).n ≠ 0 from h)]
theorem ev_way (env : ByteArray → Option Int) (k : Int) (hk : InR k) (s : ByteArray) (x y : XT) : ev env (.t (opH 5 s) (XVal k) x y) = if k = 0 then ev env y else ev env x := by
  show chk (opH 5 s) (rawT (opH 5 s) (ev env (XVal k)) (ev env x) (ev env y)) = _
  rw [ev_val env k hk, rawT_ok]
  by_cases h : k = 0
  · rw [if_pos h, chk_evm]
  · rw [if_neg h, chk_evm]
theorem mtand : (⟨#[38, 38]⟩ : ByteArray).toList = [38, 38] := by rw [Go.Lib.toList_data]
theorem mtor : (⟨#[124, 124]⟩ : ByteArray).toList = [124, 124] := by rw [Go.Lib.toList_data]
theorem rawB_and (k : Int) (y : KR) : rawB (opH 4 ⟨#[38, 38]⟩) (okR k) y = if k = 0 then okR 0 else if y.e ≠ 0 then y else okR (ofB (decide (y.n ≠ 0))) := by
  unfold rawB
  rw [if_pos (show (opH 4 ⟨#[38, 38]⟩).k = 4 from rfl), if_neg (show ¬ (okR k).e ≠ 0 from fun h => h rfl), if_pos (show (opH 4 ⟨#[38, 38]⟩).s.toList = [38, 38] from mtand)]
  rfl
theorem rawB_or (k : Int) (y : KR) : rawB (opH 4 ⟨#[124, 124]⟩) (okR k) y = if k ≠ 0 then okR 1 else if y.e ≠ 0 then y else okR (ofB (decide (y.n ≠ 0))) := by
  unfold rawB
  have e : (opH 4 ⟨#[124, 124]⟩).s.toList = [124, 124] := mtor
  rw [if_pos (show (opH 4 ⟨#[124, 124]⟩).k = 4 from rfl), if_neg (show ¬ (okR k).e ≠ 0 from fun h => h rfl), e, if_neg (by decide), if_pos rfl]
  rfl
theorem ev_and0 (env : ByteArray → Option Int) (y : XT) : ev env (.b (opH 4 ⟨#[38, 38]⟩) (XVal 0) y) = ⟨0, 0, 0, 0, 0⟩ := by
  show chk _ (rawB _ (ev env (XVal 0)) (ev env y)) = _
  rw [ev_val env 0 ⟨by decide, by decide⟩, rawB_and, if_pos rfl]
  rfl
theorem ev_and1 (env : ByteArray → Option Int) (h : env noB = none) : ev env (.b (opH 4 ⟨#[38, 38]⟩) (XVal 1) (.z badH)) = ⟨0, 1, 1, 99, 9⟩ := by
  show chk _ (rawB _ (ev env (XVal 1)) (ev env (.z badH))) = _
  rw [ev_val env 1 ⟨by decide, by decide⟩, ev_bad env h, rawB_and, if_neg (by decide), if_pos (by decide)]
  rfl
theorem ev_or1 (env : ByteArray → Option Int) (m : Int) (hm : 1 ≤ m) (hi : InR m) (y : XT) : ev env (.b (opH 4 ⟨#[124, 124]⟩) (XVal m) y) = ⟨1, 0, 0, 0, 0⟩ := by
  show chk _ (rawB _ (ev env (XVal m)) (ev env y)) = _
  rw [ev_val env m hi, rawB_or, if_pos (by omega)]
  rfl
theorem wx_bad : WX (.z badH) := ⟨.inr rfl, by decide⟩
theorem wx_way (s : ByteArray) (k : Int) (hk : InR k) (x y : XT) (hx : WX x) (hy : WX y) : WX (.t (opH 5 s) (XVal k) x y) := ⟨.inl rfl, wx_val k hk, hx, hy⟩
theorem wx_and (k : Int) (hk : InR k) (y : XT) (hy : WX y) : WX (.b (opH 4 ⟨#[38, 38]⟩) (XVal k) y) := ⟨.inl ⟨rfl, .inr (.inl mtand)⟩, wx_val k hk, hy⟩
theorem wx_or (k : Int) (hk : InR k) (y : XT) (hy : WX y) : WX (.b (opH 4 ⟨#[124, 124]⟩) (XVal k) y) := ⟨.inl ⟨rfl, .inr (.inr mtor)⟩, wx_val k hk, hy⟩
/-- Three operands side by side. -/
abbrev R18 (h1 h2 h3 : XH) (A1 : Option Addr) (n1 c1 : Nat) (A2 : Option Addr) (n2 c2 : Nat) (A3 : Option Addr) (n3 c3 : Nat) (T : TypeId) : Obj := .cells #[.int .i64 h1.k, .int .i64 h1.f, .int .i64 h1.l, .int .i64 h1.c, .string h1.s, .slice A1 n1 c1, .int .i64 h2.k, .int .i64 h2.f, .int .i64 h2.l, .int .i64 h2.c, .string h2.s, .slice A2 n2 c2, .int .i64 h3.k, .int .i64 h3.f, .int .i64 h3.l, .int .i64 h3.c, .string h3.s, .slice A3 n3 c3] T
theorem triple_ar {w : World} {g B : Nat} {h : XH} {a1 a2 a3 : XT} {A1 A2 A3 : Option Addr} {c1 c2 c3 : Nat} {T : TypeId} (hg : w.heap[g]? = some (R18 a1.h a2.h a3.h A1 a1.args.length c1 A2 a2.args.length c2 A3 a3.args.length c3 T)) (hB : g < B) (x1 : XAr w B a1 A1) (x2 : XAr w B a2 A2) (x3 : XAr w B a3 A3) : XAr w B (.t h a1 a2 a3) (some ⟨g, 0, none⟩) := by
  have hc : XC w g 0 a1.h A1 a1.args.length c1 ∧ XC w g (0 + 6) a2.h A2 a2.args.length c2 ∧ XC w g (0 + 12) a3.h A3 a3.args.length c3 := by
    unfold XC
    refine ⟨⟨?_, ?_, ?_, ?_, ?_, ?_⟩, ⟨?_, ?_, ?_, ?_, ?_, ?_⟩, ?_, ?_, ?_, ?_, ?_, ?_⟩ <;> rw [Lib.cell_of_heap hg] <;> rfl
  exact ⟨g, 0, rfl, hB, ⟨A1, c1, hc.1, x1⟩, ⟨A2, c2, hc.2.1, x2⟩, A3, c3, hc.2.2, x3⟩
/-- The closure two of KonstWays. -/
def TWO (op : ByteArray) (x y : XT) (w : World) (e : Ending) (w' : World) : Prop := ∃ A c, e = .returned (xv (opH 4 op) A 2 c) ∧ XAr w' w'.heap.size (.b (opH 4 op) x y) A ∧ Below w.heap.size w w'
set_option maxRecDepth 100000 in
set_option maxHeartbeats 1600000 in
theorem two_t (op : ByteArray) (x y : XT) (A1 A2 : Option Addr) (c1 c2 : Nat) (w : World) (hx : XAr w w.heap.size x A1) (hy : XAr w w.heap.size y A2) :
    Calls Tryz.prog 20 #[.string op, xv x.h A1 x.args.length c1, xv y.h A2 y.args.length c2] w (TWO op x y w) := by
  unfold TWO
  have hb1 : Below w.heap.size w (((w.alloc (.cells #[.int .i64 x.h.k, .int .i64 x.h.f, .int .i64 x.h.l, .int .i64 x.h.c, .string x.h.s, .slice A1 x.args.length c1] 36)).alloc (.cells #[.int .i64 y.h.k, .int .i64 y.h.f, .int .i64 y.h.l, .int .i64 y.h.c, .string y.h.s, .slice A2 y.args.length c2] 36)).alloc (.cells #[.int .i64 0, .int .i64 0, .int .i64 0, .int .i64 0, .string ⟨#[]⟩, .slice none 0 0] 36)) := by go_grown
  obtain ⟨w3, hw3⟩ : ∃ W, (((w.alloc (.cells #[.int .i64 x.h.k, .int .i64 x.h.f, .int .i64 x.h.l, .int .i64 x.h.c, .string x.h.s, .slice A1 x.args.length c1] 36)).alloc (.cells #[.int .i64 y.h.k, .int .i64 y.h.f, .int .i64 y.h.l, .int .i64 y.h.c, .string y.h.s, .slice A2 y.args.length c2] 36)).alloc (.cells #[.int .i64 0, .int .i64 0, .int .i64 0, .int .i64 0, .string ⟨#[]⟩, .slice none 0 0] 36)) = W := ⟨_, rfl⟩
  have hs3 : w3.heap.size = w.heap.size + 1 + 1 + 1 := by rw [← hw3]; simp
  have hX : BX w3 w.heap.size 36 x.h A1 x.args.length c1 := by rw [← hw3]; exact ((BX.new w 36 x.h A1 x.args.length c1).al (.cells #[.int .i64 y.h.k, .int .i64 y.h.f, .int .i64 y.h.l, .int .i64 y.h.c, .string y.h.s, .slice A2 y.args.length c2] 36)).al (.cells #[.int .i64 0, .int .i64 0, .int .i64 0, .int .i64 0, .string ⟨#[]⟩, .slice none 0 0] 36)
  have hY : BX w3 (w.heap.size + 1) 36 y.h A2 y.args.length c2 := by
    have h := (BX.new (w.alloc (.cells #[.int .i64 x.h.k, .int .i64 x.h.f, .int .i64 x.h.l, .int .i64 x.h.c, .string x.h.s, .slice A1 x.args.length c1] 36)) 36 y.h A2 y.args.length c2).al (.cells #[.int .i64 0, .int .i64 0, .int .i64 0, .int .i64 0, .string ⟨#[]⟩, .slice none 0 0] 36)
    rw [show (w.alloc (.cells #[.int .i64 x.h.k, .int .i64 x.h.f, .int .i64 x.h.l, .int .i64 x.h.c, .string x.h.s, .slice A1 x.args.length c1] 36)).heap.size = w.heap.size + 1 by simp] at h
    rw [← hw3]; exact h
  have hZ : AZ w3 (w.heap.size + 1 + 1) := by
    have h := heap_alloc_new ((w.alloc (.cells #[.int .i64 x.h.k, .int .i64 x.h.f, .int .i64 x.h.l, .int .i64 x.h.c, .string x.h.s, .slice A1 x.args.length c1] 36)).alloc (.cells #[.int .i64 y.h.k, .int .i64 y.h.f, .int .i64 y.h.l, .int .i64 y.h.c, .string y.h.s, .slice A2 y.args.length c2] 36)) (.cells #[.int .i64 0, .int .i64 0, .int .i64 0, .int .i64 0, .string ⟨#[]⟩, .slice none 0 0] 36)
    rw [show ((w.alloc (.cells #[.int .i64 x.h.k, .int .i64 x.h.f, .int .i64 x.h.l, .int .i64 x.h.c, .string x.h.s, .slice A1 x.args.length c1] 36)).alloc (.cells #[.int .i64 y.h.k, .int .i64 y.h.f, .int .i64 y.h.l, .int .i64 y.h.c, .string y.h.s, .slice A2 y.args.length c2] 36)).heap.size = w.heap.size + 1 + 1 by simp] at h
    rw [← hw3]; exact h
  rw [hw3] at hb1
  obtain ⟨k0, k1, k2, k3, k4, k5⟩ := hX.all
  have kl := hX.lt
  obtain ⟨l0, l1, l2, l3, l4, l5⟩ := hY.all
  have ll := hY.lt
  have hR : (w3.alloc (.cells #[.int .i64 x.h.k, .int .i64 x.h.f, .int .i64 x.h.l, .int .i64 x.h.c, .string x.h.s, .slice A1 x.args.length c1, .int .i64 y.h.k, .int .i64 y.h.f, .int .i64 y.h.l, .int .i64 y.h.c, .string y.h.s, .slice A2 y.args.length c2] 36)).heap[w3.heap.size]? = some (R12 x.h y.h A1 x.args.length c1 A2 y.args.length c2 36) := heap_alloc_new w3 _
  have hbR := (Below.refl w3.heap.size w3).alloc (Nat.le_refl _) (.cells #[.int .i64 x.h.k, .int .i64 x.h.f, .int .i64 x.h.l, .int .i64 x.h.c, .string x.h.s, .slice A1 x.args.length c1, .int .i64 y.h.k, .int .i64 y.h.f, .int .i64 y.h.l, .int .i64 y.h.c, .string y.h.s, .slice A2 y.args.length c2] 36)
  have hs4 : (w3.alloc (.cells #[.int .i64 x.h.k, .int .i64 x.h.f, .int .i64 x.h.l, .int .i64 x.h.c, .string x.h.s, .slice A1 x.args.length c1, .int .i64 y.h.k, .int .i64 y.h.f, .int .i64 y.h.l, .int .i64 y.h.c, .string y.h.s, .slice A2 y.args.length c2] 36)).heap.size = w.heap.size + 1 + 1 + 1 + 1 := by simp [hs3]
  obtain ⟨w4, hw4⟩ : ∃ W, w3.alloc (.cells #[.int .i64 x.h.k, .int .i64 x.h.f, .int .i64 x.h.l, .int .i64 x.h.c, .string x.h.s, .slice A1 x.args.length c1, .int .i64 y.h.k, .int .i64 y.h.f, .int .i64 y.h.l, .int .i64 y.h.c, .string y.h.s, .slice A2 y.args.length c2] 36) = W := ⟨_, rfl⟩
  rw [hw4] at hR hbR hs4
  have hx4 := hx.over (hb1.trans (hbR.mono (by omega)))
  have hy4 := hy.over (hb1.trans (hbR.mono (by omega)))
  have hb4 := below_call hbR hb1
  have hZ4 : AZ w4 (w.heap.size + 1 + 1) := hZ.over hbR
  have hpc := pair_cells hR
  have hX5 : XQ w4 (fun b => b < w.heap.size + 1 + 1 + 1 + 1 ∧ b ≠ w.heap.size + 1 + 1) (.b (opH 4 op) x y) (some ⟨w3.heap.size, 0, none⟩) :=
    ⟨w3.heap.size, 0, rfl, ⟨by omega, by omega⟩, ⟨A1, c1, hpc.1, hx4.q.over (fun _ _ => rfl) fun b hb => ⟨by omega, by omega⟩⟩, A2, c2, hpc.2, hy4.q.over (fun _ _ => rfl) fun b hb => ⟨by omega, by omega⟩⟩
  have six := hZ4.six (.int .i64 4) (.int .i64 0) (.int .i64 0) (.int .i64 0) (.string op) (.slice (some ⟨w3.heap.size, 0, none⟩) 2 2)
  obtain ⟨zf, zl, z0, z1, z2, z3, z4, z5⟩ := hZ4.all
  have zf3 : ∀ i, w3.frozen? ⟨w.heap.size + 1 + 1, i, none⟩ = false := hZ.all.1
  replace hX5 := Lib.hid hX5
  replace hb4 := Lib.hid hb4
  replace six := Lib.hid six
  replace hs4 := Lib.hid hs4
  replace hs3 := Lib.hid hs3
  clear hX hY hZ hx4 hy4 hZ4 hR hbR hx hy hb1 hpc
  go_enter Tryz.func20, Tryz.ntmps20
  go_wp2_with fail
  refine bodyPost_ret (v := .agg #[.int .i64 4, .int .i64 0, .int .i64 0, .int .i64 0, .string op, .slice (some ⟨w3.heap.size, 0, none⟩) 2 2]) (by simp [results, Tryz.results20, go_sem, six.out]) rfl ?_
  refine ⟨some ⟨w3.heap.size, 0, none⟩, 2, rfl, ?_, ?_⟩
  · exact XQ.ar (F := fun b => b < w.heap.size + 1 + 1 + 1 + 1) (fun b hb => by rw [set6_size, hs4.out]; exact hb) (hX5.out.over (fun b hb => set6_far _ _ _ _ _ _ _ _ b hb.2) fun b hb => hb.1)
  · exact hb4.out.trans ((set6_keep _ (w.heap.size + 1 + 1) _ _ _ _ _ _).below (by rw [hs4.out]; omega) fun b hb => by omega)
end Go.Proofs.YtdjaikglkgabdaaGreatDoor

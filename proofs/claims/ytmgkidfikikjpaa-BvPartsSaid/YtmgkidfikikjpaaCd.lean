/-
  The walk of bv's Cat.
-/
import Derived.Test.YtmgkidfikikjpaaCc
namespace Go.Proofs.Ytmgkidfikikjpaa
open Go Go.RowKit Go.Shelf
attribute [local go_sem] Oper.semAt_some
theorem KB_b {n₀ Bs : Nat} {w : World} (hn : n₀ ≤ w.heap.size) (hB : Bs < w.heap.size) (W : World) (l : Nat) (o o' : Obj) (hl : w.heap.size ≤ l) (h : W.heap[l]? = some o) (hc : o.isCells = false) (hw : o.isWalk = false) : KB n₀ Bs W (W.putObj l o') :=
  ⟨belowK_b hn W l o o' hl h hc hw, World.putObj_heap_other (fun e => by omega)⟩
theorem KB_below {n₀ Bs : Nat} {w w' : World} (h : Below w.heap.size w w') (hn : n₀ ≤ w.heap.size) (hB : Bs < w.heap.size) : KB n₀ Bs w w' := ⟨h.mono hn, h.block Bs hB⟩
theorem KB_set {n₀ Bs : Nat} {w : World} {p : Addr} (v : Value) (hn : n₀ ≤ p.block) (hB : Bs ≠ p.block) : KB n₀ Bs w (w.setCell p v) := ⟨(Below.refl _ _).setCell hn _, Go.Deep.blk_setCell_other _ _ _ _ hB⟩
theorem EV.over {w w' : World} {b : Nat} {e : Int} (h : EV w b e) (hb : Below w.heap.size w w') : EV w' b e := World.rowIs.of_block h (hb.block b (World.rowIs.lt h))
theorem EV.alloc {w : World} {b : Nat} {e : Int} (h : EV w b e) (o : Obj) : EV (w.alloc o) b e := World.rowIs.alloc h o
theorem EV.drew {w : World} {b : Nat} {e : Int} (h : EV w b e) : EV w.drew b e := h
theorem EV.lt {w : World} {b : Nat} {e : Int} (h : EV w b e) : b < w.heap.size := World.rowIs.lt h
theorem EV.far3 {w : World} {b d i j k : Nat} {e : Int} {u v z : Value} (h : EV w b e) (hd : b ≠ d) : EV (((w.setCell ⟨d, i, none⟩ u).setCell ⟨d, j, none⟩ v).setCell ⟨d, k, none⟩ z) b e := World.rowIs.setOther (World.rowIs.setOther (World.rowIs.setOther h hd u) hd v) hd z
theorem EV.set {w : World} {b : Nat} {e : Int} (h : EV w b e) (e' : Int) : EV (w.setCell ⟨b, 0, none⟩ (.int .i64 e')) b e' := World.rowIs.congr (World.rowIs.set h 0 _) fun j hj => by
  obtain rfl : j = 0 := by omega
  rw [if_pos rfl]
set_option maxRecDepth 1000000 in
set_option maxHeartbeats 8000000 in
theorem Cat_ok (len cap : Nat) (A : Option Addr) (nn xx : Nat → Nat) (u : World) (hx : ∀ j, xx j < 2 ^ nn j) (hlen : len ≤ 1000) (hR : RV3 u A len nn xx) :
    Calls Try.prog 16 #[.slice A len cap] u (RV u (.tuple #[vv (catR nn xx len).1 (catR nn xx len).2.1, .int .i64 (catR nn xx len).2.2])) := by
  refine (callsIn_wide (n := 5)).1 ?_
  have h1 : 1 ≤ 5 := by decide
  replace hx := Lib.hid hx
  replace hR := Lib.hid hR
  refine callsIn_of_wp_marks Try.func16 rfl trivial ?_ rfl
  simp only [Try.ntmps16, List.size_toArray, List.length_cons, List.length_nil, Nat.reduceAdd, Nat.reduceSub, Array.replicate_succ, Array.replicate_zero, List.push_toArray, List.append_toArray, List.nil_append, List.cons_append]
  gi_wp2_with (refine ⟨trivial, ?_⟩; gi_at_call 54; refine (callsIn_wide.2 (back_in _ _ _ _)).mono ?_; rintro e w' ⟨rfl, rfl⟩)
  have hB0 : Below u.heap.size u ((((u.alloc (.cells zcs 28)).alloc (.cells #[.int .i64 0] 30)).alloc (.cells zcs 28)).alloc (.cells #[.slice A len cap] 78)) := by go_grown
  have Z0 : HV 28 ((((u.alloc (.cells zcs 28)).alloc (.cells #[.int .i64 0] 30)).alloc (.cells zcs 28)).alloc (.cells #[.slice A len cap] 78)) u.heap.size 0 0 := (((HV.zero u 28).alloc _).alloc _).alloc _
  have E0 : EV ((((u.alloc (.cells zcs 28)).alloc (.cells #[.int .i64 0] 30)).alloc (.cells zcs 28)).alloc (.cells #[.slice A len cap] 78)) (u.heap.size + 1) 0 := by
    have h := World.rowIs_alloc (u.alloc (.cells zcs 28)) #[.int .i64 0] 30 (fun _ => .int .i64 0) (fun i hi => by
      obtain rfl : i = 0 := by simp at hi; omega
      rfl)
    rw [World.size_alloc] at h
    exact (World.rowIs.alloc (World.rowIs.alloc h _) _)
  have V0 : HV 28 ((((u.alloc (.cells zcs 28)).alloc (.cells #[.int .i64 0] 30)).alloc (.cells zcs 28)).alloc (.cells #[.slice A len cap] 78)) (u.heap.size + 1 + 1) 0 0 := by
    have h := HV.zero ((u.alloc (.cells zcs 28)).alloc (.cells #[.int .i64 0] 30)) 28
    rw [World.size_alloc, World.size_alloc] at h
    exact h.alloc _
  have hc0 : ((((u.alloc (.cells zcs 28)).alloc (.cells #[.int .i64 0] 30)).alloc (.cells zcs 28)).alloc (.cells #[.slice A len cap] 78)).cell? ⟨u.heap.size + 1 + 1 + 1, 0, none⟩ = some (.slice A len cap) := by
    have h := cell_of_row _ _ 0 _ _ _ (heap_alloc_new (((u.alloc (.cells zcs 28)).alloc (.cells #[.int .i64 0] 30)).alloc (.cells zcs 28)) (.cells #[.slice A len cap] 78))
    rw [World.size_alloc, World.size_alloc, World.size_alloc] at h
    rw [h]; rfl
  have hsz : ((((u.alloc (.cells zcs 28)).alloc (.cells #[.int .i64 0] 30)).alloc (.cells zcs 28)).alloc (.cells #[.slice A len cap] 78)).heap.size = u.heap.size + 4 := by simp
  obtain ⟨W0, hW0⟩ : ∃ W0, ((((u.alloc (.cells zcs 28)).alloc (.cells #[.int .i64 0] 30)).alloc (.cells zcs 28)).alloc (.cells #[.slice A len cap] 78)) = W0 := ⟨_, rfl⟩
  rw [hW0] at hB0 Z0 E0 V0 hc0 hsz ⊢
  clear hW0
  refine wpIn_rangeFunc_ownH (F := Fence.wide) rfl h1 (gf := 71) (lb := #[.pointer (some ⟨u.heap.size + 1 + 1 + 1, 0, none⟩)]) rfl trivial (enters_of Try.func71 (by kernel_rfl) rfl)
    (back_stops Fence.wide (5 - 1) trivial rfl (by decide) (u.heap.size + 1 + 1 + 1) u.heap.size len cap A nn xx hlen u W0 rfl hB0 (by omega) hc0 hR.out) KB.t (KB_b (by omega) (by omega)) (Below.refl _ _) (fun _ => rfl)
    (CI u nn xx) (CX u nn xx) (CI_own u nn xx _ (by omega)) (fun c => CX_own u nn xx c _ (by omega)) ⟨⟨⟨0, 0, rfl, V0⟩, Z0, E0, by omega⟩, hB0⟩
    (CAx u nn xx (fun x B => { tmps := #[.slice A len cap, undef, .pointer (some ⟨u.heap.size, 0, none⟩), .pointer (some ⟨u.heap.size + 1, 0, none⟩), .pointer (some ⟨u.heap.size + 1 + 1, 0, none⟩), undef, .pointer (some ⟨B, 0, none⟩), undef, .agg #[.int .i64 0, .int .u64 0, .int .u64 0], .slice A len cap, .func (.func 71) #[] #[.pointer (some ⟨u.heap.size + 1 + 1 + 1, 0, none⟩)], .int .i64 (x : Int), vv (nn x) (xx x), undef, undef, undef, undef, undef, undef, undef, undef, undef, undef, undef, undef, undef, undef, undef, undef, undef, undef, undef, undef, undef, undef, undef, undef, undef, undef, undef, undef, undef, undef], defers := [] })) (fun x a' => CAx_own u nn xx _ x a' _) ?assign ?body ?done ?stop
  case assign =>
    rintro l pre x W K ⟨⟨⟨m, v, hs, V⟩, Z, E, s1⟩, hB⟩ hK
    gi_wp2
    exact hK _ _ ((KeepsOthers.alloc _ _).from _) (KB_below ((Below.refl _ W).alloc (Nat.le_refl _) _) (by omega) (by omega)) ⟨⟨⟨m, v, hs, V.alloc _⟩, Z.alloc _, E.alloc _, by simp; omega⟩, hB.alloc (by omega) _⟩ ⟨W.heap.size, by omega, HV.new W 28 _ _, rfl⟩
  case body =>
    rintro l pre x a' w hl _ ⟨⟨⟨m, v, hs, V⟩, Z, E, s1⟩, hB⟩ ⟨Bx, hBx, X, rfl⟩ hlt
    obtain ⟨hm, hv⟩ := catS_lt nn xx hx.out pre m v hs
    have hxx := hx.out x
    have hst : catS nn xx (pre ++ [x]) = catT nn xx (some (m, v)) x := by rw [catS_snoc, hs]
    unfold catT at hst
    simp only at hst
    have va := V.all
    have xa := X.all
    have za := Z.all
    have e0 : w.cell? ⟨u.heap.size + 1, 0, none⟩ = some (.int .i64 0) := World.rowIs.cell E (by decide)
    have ef := World.rowIs.frozen E
    have sub : IntKind.i64.wrap (128 - (m : Int)) = 128 - (m : Int) := IntWalk.i64_in _ (by omega)
    clear hs
    by_cases hn0 : nn x = 0
    · rw [if_pos (Or.inl hn0)] at hst
      have c0 : ((nn x : Int) == 0) = true := by simp [hn0]
      replace hst := Lib.hid hst
      replace hn0 := Lib.hid hn0
      clear hm hv hxx
      gi_wp2
      exact ⟨(((KeepsOthers.setCell _ _ _).trans (KeepsOthers.setCell _ _ _)).trans ((KeepsOthers.setCell _ _ _).trans (KeepsOthers.setCell _ _ _))).from _, ⟨rfl, hst.out, (Z.set3 0 0).far (by show u.heap.size ≠ u.heap.size + 1; omega) _, (E.far3 (by omega)).set 2⟩, (((hB.setCell (p := ⟨u.heap.size, 0, none⟩) (Nat.le_refl _) _).setCell (p := ⟨u.heap.size, 1, none⟩) (Nat.le_refl _) _).setCell (p := ⟨u.heap.size, 2, none⟩) (Nat.le_refl _) _).setCell (p := ⟨u.heap.size + 1, 0, none⟩) (Nat.le_succ _) _⟩
    by_cases hbig : 128 < m + nn x
    · rw [if_pos (Or.inr hbig)] at hst
      have c0 : ((nn x : Int) == 0) = false := by simp; omega
      have c1 : decide (128 - (m : Int) < (nn x : Int)) = true := by simp; omega
      replace hst := Lib.hid hst
      clear hm hv hxx
      gi_wp2
      exact ⟨(((KeepsOthers.setCell _ _ _).trans (KeepsOthers.setCell _ _ _)).trans ((KeepsOthers.setCell _ _ _).trans (KeepsOthers.setCell _ _ _))).from _, ⟨rfl, hst.out, (Z.set3 0 0).far (by show u.heap.size ≠ u.heap.size + 1; omega) _, (E.far3 (by omega)).set 2⟩, (((hB.setCell (p := ⟨u.heap.size, 0, none⟩) (Nat.le_refl _) _).setCell (p := ⟨u.heap.size, 1, none⟩) (Nat.le_refl _) _).setCell (p := ⟨u.heap.size, 2, none⟩) (Nat.le_refl _) _).setCell (p := ⟨u.heap.size + 1, 0, none⟩) (Nat.le_succ _) _⟩
    · rw [if_neg (by omega)] at hst
      have c0 : ((nn x : Int) == 0) = false := by simp; omega
      have c1 : decide (128 - (m : Int) < (nn x : Int)) = false := by simp; omega
      obtain ⟨p, hp⟩ : ∃ p, m + nn x = p := ⟨_, rfl⟩
      rw [hp] at hst
      have add : IntKind.i64.wrap ((m : Int) + (nn x : Int)) = (p : Int) := by rw [IntWalk.i64_in _ (by omega)]; omega
      have hle : 2 ^ nn x ≤ 2 ^ p := Nat.pow_le_pow_right (by decide) (by omega)
      have hlm : 2 ^ m ≤ 2 ^ p := Nat.pow_le_pow_right (by decide) (by omega)
      have hR := Lib.hid (fun w => by
        have h := resized_w (nn x) p (lo (xx x)) (hi (xx x)) w (by omega) (lo_lt _) (hi_lt hxx (by omega))
        have e : trimN p (lo (xx x)) (hi (xx x)) = xx x := by
          unfold trimN
          rw [lo_hi, Nat.mod_eq_of_lt (Nat.lt_of_lt_of_le hxx hle)]
        rw [e] at h
        exact h)
      have hlt2 : xx x * 2 ^ m < 2 ^ p := by
        rw [← hp, Nat.add_comm, Nat.pow_add]
        exact Nat.mul_lt_mul_of_lt_of_le hxx (Nat.le_refl _) (Nat.two_pow_pos _)
      have hU := fun w => shiftUp_v p (xx x) m w (by omega) (by omega)
      rw [Nat.mod_eq_of_lt hlt2] at hU
      replace hU := Lib.hid hU
      have hL := Lib.hid (fun w => logic_8m p m (xx x * 2 ^ m) v w (by omega) hlt2 (Nat.lt_of_lt_of_le hv hlm))
      have hbw0 : Below w.heap.size w w := Below.refl _ _
      have hul : u.heap.size + 1 + 1 + 1 < w.heap.size := by have := X.lt; omega
      replace hst := Lib.hid hst
      clear hlt2 hv hxx hle hlm hp
      gi_wp2_with fail
      gi_cut [7] from 43 (fun sv wz => ∃ bp : Nat, sv = .pointer (some ⟨bp, 0, none⟩) ∧ HV 28 wz (u.heap.size + 1 + 1) m v ∧ HV 28 wz u.heap.size 0 0 ∧ EV wz (u.heap.size + 1) 0 ∧ HV 28 wz bp p (xx x * 2 ^ m) ∧ Below w.heap.size w wz)
      case first =>
        refine regionIn_anyT (k := 11) (S := fun w' => (w'.cell? ⟨Bx, 0, none⟩ = some (.int .i64 ((nn x) : Int)) ∧ w'.cell? ⟨Bx, 1, none⟩ = some (.int .u64 ((lo (xx x) : Nat) : Int)) ∧ w'.cell? ⟨Bx, 2, none⟩ = some (.int .u64 ((hi (xx x) : Nat) : Int))) ∧ (w'.cell? ⟨u.heap.size + 1 + 1, 0, none⟩ = some (.int .i64 (m : Int)) ∧ w'.cell? ⟨u.heap.size + 1 + 1, 1, none⟩ = some (.int .u64 ((lo v : Nat) : Int)) ∧ w'.cell? ⟨u.heap.size + 1 + 1, 2, none⟩ = some (.int .u64 ((hi v : Nat) : Int)))) (by kernel_rfl) (by rintro ⟨_, _, h⟩; exact h) (by kernel_rfl) ?_
        have hS0 : (fun w' : World => (w'.cell? ⟨Bx, 0, none⟩ = some (.int .i64 ((nn x) : Int)) ∧ w'.cell? ⟨Bx, 1, none⟩ = some (.int .u64 ((lo (xx x) : Nat) : Int)) ∧ w'.cell? ⟨Bx, 2, none⟩ = some (.int .u64 ((hi (xx x) : Nat) : Int))) ∧ (w'.cell? ⟨u.heap.size + 1 + 1, 0, none⟩ = some (.int .i64 (m : Int)) ∧ w'.cell? ⟨u.heap.size + 1 + 1, 1, none⟩ = some (.int .u64 ((lo v : Nat) : Int)) ∧ w'.cell? ⟨u.heap.size + 1 + 1, 2, none⟩ = some (.int .u64 ((hi v : Nat) : Int)))) w.drew := ⟨X.drew.keep3, V.drew.keep3⟩
        refine anyT_take (i := 0) (v := vv (nn x) (xx x)) rfl (by kernel_rfl) (by kernel_rfl) (fun _ _ _ h => h) (Or.inl ⟨by rfl, ?_⟩) hS0 ?_
        · intro w' hw'
          obtain ⟨⟨k1, k2, k3⟩, ⟨k4, k5, k6⟩⟩ := hw'
          go_simp
          try with_reducible rfl
        try simp only [Act.put, List.getElem_toArray, List.getElem_cons_zero, List.getElem_cons_succ, List.setIfInBounds_toArray, List.set_cons_zero, List.set_cons_succ]
        refine anyT_take (i := 1) (v := .pointer (some ⟨u.heap.size + 1 + 1, 0, none⟩)) rfl (by kernel_rfl) (by kernel_rfl) (fun _ _ _ h => h) (Or.inl ⟨by rfl, ?_⟩) hS0 ?_
        · intro w' hw'
          obtain ⟨⟨k1, k2, k3⟩, ⟨k4, k5, k6⟩⟩ := hw'
          go_simp
          try with_reducible rfl
        try simp only [Act.put, List.getElem_toArray, List.getElem_cons_zero, List.getElem_cons_succ, List.setIfInBounds_toArray, List.set_cons_zero, List.set_cons_succ]
        refine anyT_take (i := 2) (v := .int .i64 (m : Int)) rfl (by kernel_rfl) (by kernel_rfl) (fun _ _ _ h => h) (Or.inl ⟨by rfl, ?_⟩) hS0 ?_
        · intro w' hw'
          obtain ⟨⟨k1, k2, k3⟩, ⟨k4, k5, k6⟩⟩ := hw'
          go_simp
          try with_reducible rfl
        try simp only [Act.put, List.getElem_toArray, List.getElem_cons_zero, List.getElem_cons_succ, List.setIfInBounds_toArray, List.set_cons_zero, List.set_cons_succ]
        refine anyT_take (i := 3) (v := .pointer (some ⟨Bx, 0, none⟩)) rfl (by kernel_rfl) (by kernel_rfl) (fun _ _ _ h => h) (Or.inl ⟨by rfl, ?_⟩) hS0 ?_
        · intro w' hw'
          obtain ⟨⟨k1, k2, k3⟩, ⟨k4, k5, k6⟩⟩ := hw'
          go_simp
          try with_reducible rfl
        try simp only [Act.put, List.getElem_toArray, List.getElem_cons_zero, List.getElem_cons_succ, List.setIfInBounds_toArray, List.set_cons_zero, List.set_cons_succ]
        refine anyT_take (i := 4) (v := .int .i64 (nn x : Int)) rfl (by kernel_rfl) (by kernel_rfl) (fun _ _ _ h => h) (Or.inl ⟨by rfl, ?_⟩) hS0 ?_
        · intro w' hw'
          obtain ⟨⟨k1, k2, k3⟩, ⟨k4, k5, k6⟩⟩ := hw'
          go_simp
          try with_reducible rfl
        try simp only [Act.put, List.getElem_toArray, List.getElem_cons_zero, List.getElem_cons_succ, List.setIfInBounds_toArray, List.set_cons_zero, List.set_cons_succ]
        refine anyT_take (i := 5) (v := .int .i64 (p : Int)) rfl (by kernel_rfl) (by kernel_rfl) (fun _ _ _ h => h) (Or.inl ⟨by rfl, ?_⟩) hS0 ?_
        · intro w' hw'
          obtain ⟨⟨k1, k2, k3⟩, ⟨k4, k5, k6⟩⟩ := hw'
          go_simp
          try with_reducible rfl
        try simp only [Act.put, List.getElem_toArray, List.getElem_cons_zero, List.getElem_cons_succ, List.setIfInBounds_toArray, List.set_cons_zero, List.set_cons_succ]
        refine anyT_take (i := 7) (v := .pointer (some ⟨u.heap.size + 1 + 1, 0, none⟩)) rfl (by kernel_rfl) (by kernel_rfl) (fun _ _ _ h => h) (Or.inl ⟨by rfl, ?_⟩) hS0 ?_
        · intro w' hw'
          obtain ⟨⟨k1, k2, k3⟩, ⟨k4, k5, k6⟩⟩ := hw'
          go_simp
          try with_reducible rfl
        try simp only [Act.put, List.getElem_toArray, List.getElem_cons_zero, List.getElem_cons_succ, List.setIfInBounds_toArray, List.set_cons_zero, List.set_cons_succ]
        refine anyT_take (i := 8) (v := .int .i64 (m : Int)) rfl (by kernel_rfl) (by kernel_rfl) (fun _ _ _ h => h) (Or.inl ⟨by rfl, ?_⟩) hS0 ?_
        · intro w' hw'
          obtain ⟨⟨k1, k2, k3⟩, ⟨k4, k5, k6⟩⟩ := hw'
          go_simp
          try with_reducible rfl
        try simp only [Act.put, List.getElem_toArray, List.getElem_cons_zero, List.getElem_cons_succ, List.setIfInBounds_toArray, List.set_cons_zero, List.set_cons_succ]
        clear hS0
        refine anyT_pair (i := 6) (j := 10) (by kernel_rfl) ?_ ?_
        ·
          refine wpOp_step rfl (fun K hK => ?_)
          replace hK := Lib.hid hK
          go_simp
          (with_reducible refine (hR.out _).mono ?_)
          rintro e w20 ⟨rfl, hb20⟩
          have X20 := X.drew.over hb20
          have V20 := V.drew.over hb20
          have Z20 := Z.drew.over hb20
          have E20 := E.drew.over hb20
          have hbw20 : Below w.heap.size w w20 := below_call hb20 (by first | exact hbw0.drew | (refine Below.drew ?_; go_grown) | go_grown)
          have z20 := hbw20.size
          clear hb20
          refine hK.out _ _ ⟨fun _ => ⟨(X20).keep3, (V20).keep3⟩, ?_⟩
          clear hK K
          try simp only [Act.put, List.getElem_toArray, List.getElem_cons_zero, List.getElem_cons_succ, List.setIfInBounds_toArray, List.set_cons_zero, List.set_cons_succ]
          refine anyT_pair (i := 9) (j := 10) (by kernel_rfl) ?_ ?_
          ·
            refine wpOp_step rfl (fun K hK => ?_)
            replace hK := Lib.hid hK
            go_simp
            (with_reducible refine (hU.out _).mono ?_)
            rintro e w21 ⟨rfl, hb21⟩
            have X21 := X20.over hb21
            have V21 := V20.over hb21
            have Z21 := Z20.over hb21
            have E21 := E20.over hb21
            have hbw21 : Below w.heap.size w w21 := below_call hb21 (by first | exact hbw20 | (refine Below.drew ?_; go_grown) | go_grown)
            have z21 := hbw21.size
            clear hb21
            refine hK.out _ _ ⟨fun _ => ⟨(X21).keep3, (V21).keep3⟩, ?_⟩
            clear hK K
            try simp only [Act.put, List.getElem_toArray, List.getElem_cons_zero, List.getElem_cons_succ, List.setIfInBounds_toArray, List.set_cons_zero, List.set_cons_succ]
            refine anyT_one (i := 10) (by kernel_rfl) ?_
            refine wpOp_step rfl (fun K hK => ?_)
            replace hK := Lib.hid hK
            go_simp
            have Pn22 : HV 28 (w21.alloc (.cells zcs 28)) (w21.heap.size) 0 0 := by
              have h := HV.zero w21 28
              (try simp only [World.size_alloc] at h)
              exact h
            have dXP : ¬ Bx = w21.heap.size := by have := (X21).lt; (try simp only [World.size_alloc] at this); omega
            have dPX : ¬ w21.heap.size = Bx := fun h => dXP h.symm
            have dVP : ¬ u.heap.size + 1 + 1 = w21.heap.size := by have := (V21).lt; (try simp only [World.size_alloc] at this); omega
            have dPV : ¬ w21.heap.size = u.heap.size + 1 + 1 := fun h => dVP h.symm
            have dZP : ¬ u.heap.size = w21.heap.size := by have := (Z21).lt; (try simp only [World.size_alloc] at this); omega
            have dPZ : ¬ w21.heap.size = u.heap.size := fun h => dZP h.symm
            have dEP : ¬ u.heap.size + 1 = w21.heap.size := by have := (E21).lt; (try simp only [World.size_alloc] at this); omega
            have dPE : ¬ w21.heap.size = u.heap.size + 1 := fun h => dEP h.symm
            refine hK.out _ _ ⟨fun _ => ⟨((X21.alloc _)).keep3, ((V21.alloc _)).keep3⟩, ?_⟩
            clear hK K
            try simp only [Act.put, List.getElem_toArray, List.getElem_cons_zero, List.getElem_cons_succ, List.setIfInBounds_toArray, List.set_cons_zero, List.set_cons_succ]
            have Xe := (X21.alloc (.cells zcs 28))
            have Ve := (V21.alloc (.cells zcs 28))
            have Ze := (Z21.alloc (.cells zcs 28))
            have Ee := (E21.alloc (.cells zcs 28))
            have Pe := Pn22
            have lPe := Pe.all
            refine anyT_one (i := 11) (by kernel_rfl) ?_
            refine wpOp_step rfl (fun K hK => ?_)
            replace hK := Lib.hid hK
            go_simp
            refine hK.out _ _ ⟨fun h => absurd h (by decide), ?_⟩
            clear hK K
            try simp only [Act.put]
            clear lPe
            have Pm : HV 28 (w21.alloc (.cells (vcs p (xx x * 2 ^ m)) 28)) (w21.heap.size) p (xx x * 2 ^ m) := by
              have h := HV.new w21 28 p (xx x * 2 ^ m)
              (try simp only [World.size_alloc, World.size_setCell] at h)
              exact h
            refine anyT_done (by kernel_rfl) ?_ _
            gi_wp2_with fail
            gi_meet
            refine ⟨_, rfl, ?_, ?_, ?_, ?_, ?_⟩
            all_goals (first | ((repeat (first | (with_reducible exact X21) | (with_reducible exact V21) | (with_reducible exact Z21) | (with_reducible exact E21) | (with_reducible exact Pn22) | (with_reducible exact Xe) | (with_reducible exact Ve) | (with_reducible exact Ze) | (with_reducible exact Ee) | (with_reducible exact Pe) | (with_reducible exact Pm) | (with_reducible refine HV.drew ?_) | (with_reducible refine EV.drew ?_) | (with_reducible refine EV.far3 ?_ (by first | assumption | omega)) | (with_reducible refine EV.alloc ?_ _) | (with_reducible refine HV.far3 ?_ (by first | assumption | omega)) | (with_reducible refine HV.alloc ?_ _))); done) | skip)
            repeat' (first | (with_reducible refine Below.drew ?_) | (with_reducible refine Below.setCell ?_ ?_ _) | (with_reducible refine Below.alloc ?_ ?_ _))
            all_goals (first | exact hbw0 | exact hbw21 | (dsimp only; omega) | omega | go_size)
          ·
            refine wpOp_step rfl (fun K hK => ?_)
            replace hK := Lib.hid hK
            go_simp
            have Pn21 : HV 28 (w20.alloc (.cells zcs 28)) (w20.heap.size) 0 0 := by
              have h := HV.zero w20 28
              (try simp only [World.size_alloc] at h)
              exact h
            have dXP : ¬ Bx = w20.heap.size := by have := (X20).lt; (try simp only [World.size_alloc] at this); omega
            have dPX : ¬ w20.heap.size = Bx := fun h => dXP h.symm
            have dVP : ¬ u.heap.size + 1 + 1 = w20.heap.size := by have := (V20).lt; (try simp only [World.size_alloc] at this); omega
            have dPV : ¬ w20.heap.size = u.heap.size + 1 + 1 := fun h => dVP h.symm
            have dZP : ¬ u.heap.size = w20.heap.size := by have := (Z20).lt; (try simp only [World.size_alloc] at this); omega
            have dPZ : ¬ w20.heap.size = u.heap.size := fun h => dZP h.symm
            have dEP : ¬ u.heap.size + 1 = w20.heap.size := by have := (E20).lt; (try simp only [World.size_alloc] at this); omega
            have dPE : ¬ w20.heap.size = u.heap.size + 1 := fun h => dEP h.symm
            refine hK.out _ _ ⟨fun _ => ⟨((X20.alloc _)).keep3, ((V20.alloc _)).keep3⟩, ?_⟩
            clear hK K
            try simp only [Act.put, List.getElem_toArray, List.getElem_cons_zero, List.getElem_cons_succ, List.setIfInBounds_toArray, List.set_cons_zero, List.set_cons_succ]
            refine anyT_one (i := 9) (by kernel_rfl) ?_
            refine wpOp_step rfl (fun K hK => ?_)
            replace hK := Lib.hid hK
            go_simp
            (with_reducible refine (hU.out _).mono ?_)
            rintro e w22 ⟨rfl, hb22⟩
            have X22 := (X20.alloc _).over hb22
            have V22 := (V20.alloc _).over hb22
            have Z22 := (Z20.alloc _).over hb22
            have E22 := (E20.alloc _).over hb22
            have P22 := Pn21.over hb22
            have hbw22 : Below w.heap.size w w22 := below_call hb22 (by first | exact hbw20 | (refine Below.drew ?_; go_grown) | go_grown)
            have z22 := hbw22.size
            clear hb22
            refine hK.out _ _ ⟨fun _ => ⟨(X22).keep3, (V22).keep3⟩, ?_⟩
            clear hK K
            try simp only [Act.put, List.getElem_toArray, List.getElem_cons_zero, List.getElem_cons_succ, List.setIfInBounds_toArray, List.set_cons_zero, List.set_cons_succ]
            have Xe := X22
            have Ve := V22
            have Ze := Z22
            have Ee := E22
            have Pe := P22
            have lPe := P22.all
            have bPe := P22.lt
            refine anyT_one (i := 11) (by kernel_rfl) ?_
            refine wpOp_step rfl (fun K hK => ?_)
            replace hK := Lib.hid hK
            go_simp
            refine hK.out _ _ ⟨fun h => absurd h (by decide), ?_⟩
            clear hK K
            try simp only [Act.put]
            clear lPe
            refine anyT_done (by kernel_rfl) ?_ _
            gi_wp2_with fail
            gi_meet
            refine ⟨_, rfl, ?_, ?_, ?_, ?_, ?_⟩
            all_goals (first | ((repeat (first | (with_reducible exact X22) | (with_reducible exact V22) | (with_reducible exact Z22) | (with_reducible exact E22) | (with_reducible exact P22) | (with_reducible exact Xe) | (with_reducible exact Ve) | (with_reducible exact Ze) | (with_reducible exact Ee) | (with_reducible exact Pe) | (with_reducible exact HV.set3 P22 p (xx x * 2 ^ m)) | (with_reducible refine HV.drew ?_) | (with_reducible refine EV.drew ?_) | (with_reducible refine EV.far3 ?_ (by first | assumption | omega)) | (with_reducible refine EV.alloc ?_ _) | (with_reducible refine HV.far3 ?_ (by first | assumption | omega)) | (with_reducible refine HV.alloc ?_ _))); done) | skip)
            repeat' (first | (with_reducible refine Below.drew ?_) | (with_reducible refine Below.setCell ?_ ?_ _) | (with_reducible refine Below.alloc ?_ ?_ _))
            all_goals (first | exact hbw0 | exact hbw22 | (dsimp only; omega) | omega | go_size)
        ·
          refine wpOp_step rfl (fun K hK => ?_)
          replace hK := Lib.hid hK
          go_simp
          have Pn20 : HV 28 (w.alloc (.cells zcs 28)) (w.heap.size) 0 0 := by
            have h := HV.zero w 28
            (try simp only [World.size_alloc] at h)
            exact h
          have dXP : ¬ Bx = w.heap.size := by have := (X).lt; (try simp only [World.size_alloc] at this); omega
          have dPX : ¬ w.heap.size = Bx := fun h => dXP h.symm
          have dVP : ¬ u.heap.size + 1 + 1 = w.heap.size := by have := (V).lt; (try simp only [World.size_alloc] at this); omega
          have dPV : ¬ w.heap.size = u.heap.size + 1 + 1 := fun h => dVP h.symm
          have dZP : ¬ u.heap.size = w.heap.size := by have := (Z).lt; (try simp only [World.size_alloc] at this); omega
          have dPZ : ¬ w.heap.size = u.heap.size := fun h => dZP h.symm
          have dEP : ¬ u.heap.size + 1 = w.heap.size := by have := (E).lt; (try simp only [World.size_alloc] at this); omega
          have dPE : ¬ w.heap.size = u.heap.size + 1 := fun h => dEP h.symm
          refine hK.out _ _ ⟨fun _ => ⟨((X.alloc _).drew).keep3, ((V.alloc _).drew).keep3⟩, ?_⟩
          clear hK K
          try simp only [Act.put, List.getElem_toArray, List.getElem_cons_zero, List.getElem_cons_succ, List.setIfInBounds_toArray, List.set_cons_zero, List.set_cons_succ]
          refine anyT_one (i := 6) (by kernel_rfl) ?_
          refine wpOp_step rfl (fun K hK => ?_)
          replace hK := Lib.hid hK
          go_simp
          (with_reducible refine (hR.out _).mono ?_)
          rintro e w21 ⟨rfl, hb21⟩
          have X21 := (X.alloc _).drew.over hb21
          have V21 := (V.alloc _).drew.over hb21
          have Z21 := (Z.alloc _).drew.over hb21
          have E21 := (E.alloc _).drew.over hb21
          have P21 := Pn20.drew.over hb21
          have hbw21 : Below w.heap.size w w21 := below_call hb21 (by first | exact hbw0.drew | (refine Below.drew ?_; go_grown) | go_grown)
          have z21 := hbw21.size
          clear hb21
          refine hK.out _ _ ⟨fun _ => ⟨(X21).keep3, (V21).keep3⟩, ?_⟩
          clear hK K
          try simp only [Act.put, List.getElem_toArray, List.getElem_cons_zero, List.getElem_cons_succ, List.setIfInBounds_toArray, List.set_cons_zero, List.set_cons_succ]
          refine anyT_one (i := 9) (by kernel_rfl) ?_
          refine wpOp_step rfl (fun K hK => ?_)
          replace hK := Lib.hid hK
          go_simp
          (with_reducible refine (hU.out _).mono ?_)
          rintro e w22 ⟨rfl, hb22⟩
          have X22 := X21.over hb22
          have V22 := V21.over hb22
          have Z22 := Z21.over hb22
          have E22 := E21.over hb22
          have P22 := P21.over hb22
          have hbw22 : Below w.heap.size w w22 := below_call hb22 (by first | exact hbw21 | (refine Below.drew ?_; go_grown) | go_grown)
          have z22 := hbw22.size
          clear hb22
          refine hK.out _ _ ⟨fun _ => ⟨(X22).keep3, (V22).keep3⟩, ?_⟩
          clear hK K
          try simp only [Act.put, List.getElem_toArray, List.getElem_cons_zero, List.getElem_cons_succ, List.setIfInBounds_toArray, List.set_cons_zero, List.set_cons_succ]
          have Xe := X22
          have Ve := V22
          have Ze := Z22
          have Ee := E22
          have Pe := P22
          have lPe := P22.all
          have bPe := P22.lt
          refine anyT_one (i := 11) (by kernel_rfl) ?_
          refine wpOp_step rfl (fun K hK => ?_)
          replace hK := Lib.hid hK
          go_simp
          refine hK.out _ _ ⟨fun h => absurd h (by decide), ?_⟩
          clear hK K
          try simp only [Act.put]
          clear lPe
          refine anyT_done (by kernel_rfl) ?_ _
          gi_wp2_with fail
          gi_meet
          refine ⟨_, rfl, ?_, ?_, ?_, ?_, ?_⟩
          all_goals (first | ((repeat (first | (with_reducible exact X22) | (with_reducible exact V22) | (with_reducible exact Z22) | (with_reducible exact E22) | (with_reducible exact P22) | (with_reducible exact Xe) | (with_reducible exact Ve) | (with_reducible exact Ze) | (with_reducible exact Ee) | (with_reducible exact Pe) | (with_reducible exact HV.set3 P22 p (xx x * 2 ^ m)) | (with_reducible refine HV.drew ?_) | (with_reducible refine EV.drew ?_) | (with_reducible refine EV.far3 ?_ (by first | assumption | omega)) | (with_reducible refine EV.alloc ?_ _) | (with_reducible refine HV.far3 ?_ (by first | assumption | omega)) | (with_reducible refine HV.alloc ?_ _))); done) | skip)
          repeat' (first | (with_reducible refine Below.drew ?_) | (with_reducible refine Below.setCell ?_ ?_ _) | (with_reducible refine Below.alloc ?_ ?_ _))
          all_goals (first | exact hbw0 | exact hbw22 | (dsimp only; omega) | omega | go_size)
      case rest =>
        obtain ⟨bp, rfl, V2, Z2, E2, P2, hb2⟩ := hcut
        have v2 := V2.all
        have p2 := P2.all
        clear va xa za e0 ef
        have l2 := V2.lt
        gi_wp2_with (refine ⟨trivial, ?_⟩; gi_at_call 27; refine (CallsIn.inRound l (callsIn_wide.2 (hL.out _))).mono ?_; rintro e w3 ⟨rfl, hb3⟩; have V3 := V2.over hb3; have Z3 := Z2.over hb3; have E3 := E2.over hb3; have hbw3 : Below w.heap.size w w3 := below_call hb3 hb2; have v3 := V3.all; clear hb3)
        have s3 := hbw3.size
        have hn2 : u.heap.size ≤ u.heap.size + 1 + 1 := by omega
        exact ⟨((keeps_below hbw3).trans (((KeepsOthers.setCell _ _ _).trans (KeepsOthers.setCell _ _ _)).trans (KeepsOthers.setCell _ _ _))).from _, (KB_below hbw3 (by omega) (by omega)).t (((KB_set _ hn2 (by show u.heap.size + 1 + 1 + 1 ≠ u.heap.size + 1 + 1; omega)).t (KB_set _ hn2 (by show u.heap.size + 1 + 1 + 1 ≠ u.heap.size + 1 + 1; omega))).t (KB_set _ hn2 (by show u.heap.size + 1 + 1 + 1 ≠ u.heap.size + 1 + 1; omega))), ⟨⟨p, _, hst.out, V3.set3 p _⟩, Z3.far3 (by omega), E3.far3 (by omega), by simp; omega⟩, (((hB.trans (hbw3.mono hB.size)).setCell (p := ⟨u.heap.size + 1 + 1, 0, none⟩) hn2 _).setCell (p := ⟨u.heap.size + 1 + 1, 1, none⟩) hn2 _).setCell (p := ⟨u.heap.size + 1 + 1, 2, none⟩) hn2 _⟩
  case done =>
    rintro D ys W hD rfl ⟨⟨⟨m, v, hs, V⟩, Z, E, s1⟩, hB⟩ hK
    have va := V.all
    have za := Z.all
    have e0 : W.cell? ⟨u.heap.size + 1, 0, none⟩ = some (.int .i64 0) := World.rowIs.cell E (by decide)
    have ef := World.rowIs.frozen E
    by_cases hm0 : m = 0
    · have c0 : ((m : Int) == 0) = true := by simp [hm0]
      have hr := Lib.hid (show catR nn xx len = (0, 0, 2) by unfold catR; rw [hs]; simp [hm0])
      clear hs
      gi_wp2
      have Zf : HV 28 ((((W.setCell ⟨u.heap.size, 0, none⟩ (.int .i64 0)).setCell ⟨u.heap.size, 1, none⟩ (.int .u64 0)).setCell ⟨u.heap.size, 2, none⟩ (.int .u64 0)).setCell ⟨u.heap.size + 1, 0, none⟩ (.int .i64 2)) u.heap.size 0 0 := (Z.set3 0 0).far (p := ⟨u.heap.size + 1, 0, none⟩) (by show u.heap.size ≠ u.heap.size + 1; omega) (.int .i64 2)
      have Ef : EV ((((W.setCell ⟨u.heap.size, 0, none⟩ (.int .i64 0)).setCell ⟨u.heap.size, 1, none⟩ (.int .u64 0)).setCell ⟨u.heap.size, 2, none⟩ (.int .u64 0)).setCell ⟨u.heap.size + 1, 0, none⟩ (.int .i64 2)) (u.heap.size + 1) 2 := EV.set (E.far3 (d := u.heap.size) (i := 0) (j := 1) (k := 2) (u := .int .i64 ((0 : Nat) : Int)) (v := .int .u64 ((lo 0 : Nat) : Int)) (z := .int .u64 ((hi 0 : Nat) : Int)) (by omega)) 2
      have Bf : Below u.heap.size u ((((W.setCell ⟨u.heap.size, 0, none⟩ (.int .i64 0)).setCell ⟨u.heap.size, 1, none⟩ (.int .u64 0)).setCell ⟨u.heap.size, 2, none⟩ (.int .u64 0)).setCell ⟨u.heap.size + 1, 0, none⟩ (.int .i64 2)) := ((((hB.setCell (p := ⟨u.heap.size, 0, none⟩) (Nat.le_refl _) _).setCell (p := ⟨u.heap.size, 1, none⟩) (Nat.le_refl _) _).setCell (p := ⟨u.heap.size, 2, none⟩) (Nat.le_refl _) _).setCell (p := ⟨u.heap.size + 1, 0, none⟩) (Nat.le_succ _) _)
      have Kf : (((((W.setCell ⟨u.heap.size, 0, none⟩ (.int .i64 0)).setCell ⟨u.heap.size, 1, none⟩ (.int .u64 0)).setCell ⟨u.heap.size, 2, none⟩ (.int .u64 0)).setCell ⟨u.heap.size + 1, 0, none⟩ (.int .i64 2))).heap[D]? = some (.deferred (some [])) := (((KeepsOthers.setCell _ _ _).trans (KeepsOthers.setCell _ _ _)).trans ((KeepsOthers.setCell _ _ _).trans (KeepsOthers.setCell _ _ _))).same D _ hK rfl
      have Zq := rowIs_own Zf (grownBy_putObj' _ D (.deferred none)) (fun r e => by cases e; exact ⟨_, Kf, rfl⟩)
      have Eq := rowIs_own Ef (grownBy_putObj' _ D (.deferred none)) (fun r e => by cases e; exact ⟨_, Kf, rfl⟩)
      have zq := HV.all Zq
      have eq0 := World.rowIs.cell Eq (i := 0) (by decide)
      refine ⟨by simp, .inl ⟨_, _, rfl, run_takeDeferred Kf, ?_⟩⟩
      refine ⟨.tuple #[vv 0 0, .int .i64 2], by simp [results, Try.results16, go_sem, zq, eq0], by rw [hr.out], Bf.trans (belowK_b (w := u) (Nat.le_refl _) _ D _ _ (by omega) Kf rfl rfl)⟩

    · have c0 : ((m : Int) == 0) = false := by simp; omega
      have hr := Lib.hid (show catR nn xx len = (m, v, 0) by unfold catR; rw [hs]; simp [hm0])
      clear hs
      gi_wp2
      have Zf := (Z.set3 m v).far (p := ⟨u.heap.size + 1, 0, none⟩) (by show u.heap.size ≠ u.heap.size + 1; omega) (.int .i64 0)
      have Ef := EV.set (E.far3 (d := u.heap.size) (i := 0) (j := 1) (k := 2) (u := .int .i64 (m : Int)) (v := .int .u64 ((lo v : Nat) : Int)) (z := .int .u64 ((hi v : Nat) : Int)) (by omega)) 0
      have Bf : Below u.heap.size u ((((W.setCell ⟨u.heap.size, 0, none⟩ (.int .i64 ((m : Nat) : Int))).setCell ⟨u.heap.size, 1, none⟩ (.int .u64 ((lo v : Nat) : Int))).setCell ⟨u.heap.size, 2, none⟩ (.int .u64 ((hi v : Nat) : Int))).setCell ⟨u.heap.size + 1, 0, none⟩ (.int .i64 0)) := ((((hB.setCell (p := ⟨u.heap.size, 0, none⟩) (Nat.le_refl _) _).setCell (p := ⟨u.heap.size, 1, none⟩) (Nat.le_refl _) _).setCell (p := ⟨u.heap.size, 2, none⟩) (Nat.le_refl _) _).setCell (p := ⟨u.heap.size + 1, 0, none⟩) (Nat.le_succ _) _)
      have Kf : (((((W.setCell ⟨u.heap.size, 0, none⟩ (.int .i64 ((m : Nat) : Int))).setCell ⟨u.heap.size, 1, none⟩ (.int .u64 ((lo v : Nat) : Int))).setCell ⟨u.heap.size, 2, none⟩ (.int .u64 ((hi v : Nat) : Int))).setCell ⟨u.heap.size + 1, 0, none⟩ (.int .i64 0))).heap[D]? = some (.deferred (some [])) := (((KeepsOthers.setCell _ _ _).trans (KeepsOthers.setCell _ _ _)).trans ((KeepsOthers.setCell _ _ _).trans (KeepsOthers.setCell _ _ _))).same D _ hK rfl
      have Zq := rowIs_own Zf (grownBy_putObj' _ D (.deferred none)) (fun r e => by cases e; exact ⟨_, Kf, rfl⟩)
      have Eq := rowIs_own Ef (grownBy_putObj' _ D (.deferred none)) (fun r e => by cases e; exact ⟨_, Kf, rfl⟩)
      have zq := HV.all Zq
      have eq0 := World.rowIs.cell Eq (i := 0) (by decide)
      refine ⟨by simp, .inl ⟨_, _, rfl, run_takeDeferred Kf, ?_⟩⟩
      refine ⟨.tuple #[vv m v, .int .i64 0], by simp [results, Try.results16, go_sem, zq, eq0], by rw [hr.out], Bf.trans (belowK_b (w := u) (Nat.le_refl _) _ D _ _ (by omega) Kf rfl rfl)⟩

  case stop =>
    rintro D c pre W hD ⟨k, hk, rfl⟩ ⟨⟨rfl, hs, Z, E⟩, hB⟩ hK
    have za := Z.all
    have e0 : W.cell? ⟨u.heap.size + 1, 0, none⟩ = some (.int .i64 2) := World.rowIs.cell E (by decide)
    have hr := Lib.hid (catR_none nn xx len k hk hs)
    clear hs
    gi_wp2
    have Zf := Z
    have Ef := E
    have Bf := hB
    have Kf := hK
    have Zq := rowIs_own Zf (grownBy_putObj' _ D (.deferred none)) (fun r e => by cases e; exact ⟨_, Kf, rfl⟩)
    have Eq := rowIs_own Ef (grownBy_putObj' _ D (.deferred none)) (fun r e => by cases e; exact ⟨_, Kf, rfl⟩)
    have zq := HV.all Zq
    have eq0 := World.rowIs.cell Eq (i := 0) (by decide)
    refine ⟨by simp, .inl ⟨_, _, rfl, run_takeDeferred Kf, ?_⟩⟩
    refine ⟨.tuple #[vv 0 0, .int .i64 2], by simp [results, Try.results16, go_sem, zq, eq0], by rw [hr.out], Bf.trans (belowK_b (w := u) (Nat.le_refl _) _ D _ _ (by omega) Kf rfl rfl)⟩

end Go.Proofs.Ytmgkidfikikjpaa

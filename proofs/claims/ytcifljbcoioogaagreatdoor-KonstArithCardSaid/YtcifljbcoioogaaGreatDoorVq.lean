/-
  ToldExpr: the document's tree in new memory, the same.
-/
import Derived.Test.YtcifljbcoioogaaGreatDoorVk
import Derived.Deep.Cut
namespace Go.Proofs.YtcifljbcoioogaaGreatDoor
open Go.RowKit Go.Lib
set_option maxRecDepth 100000 in
set_option maxHeartbeats 6400000 in
theorem Told_t1 (t : XT) (A : Option Addr) (c : Nat) (w : World) (hX0 : XQ w (· < w.heap.size) t A)
    (hE : ∀ a ∈ t.args, ∀ Aj cj W, XQ W (· < W.heap.size) a Aj → Calls Tryz.prog 15 #[xv a.h Aj a.args.length cj] W (TRt a W)) :
    Calls Tryz.prog 15 #[xv t.h A t.args.length c] w (TRt t w) := by
  obtain ⟨i0, hi, hz0, hz1, hz2⟩ := info_parts info_expr
  have h3 := t.args_le
  unfold TRt at *
  obtain ⟨n, hn⟩ : ∃ n, t.args.length = n := ⟨_, rfl⟩
  obtain ⟨h, hh⟩ : ∃ h, t.h = h := ⟨_, rfl⟩
  have hmk := mkT_eta t
  rw [hh] at hmk ⊢
  rw [hn] at h3 ⊢
  have hb0 : Below w.heap.size w (((w.alloc (.cells #[.int .i64 h.k, .int .i64 h.f, .int .i64 h.l, .int .i64 h.c, .string h.s, .slice A n c] 47)).alloc (.cells #[.int .i64 0, .int .i64 0, .int .i64 0, .int .i64 0, .string ⟨#[]⟩, .slice none 0 0] 33)).alloc (.cells #[.int .i64 h.k, .int .i64 h.f, .int .i64 h.l, .int .i64 h.c, .string h.s, .slice none 0 0] 33)) := by go_grown
  have hsz : (((w.alloc (.cells #[.int .i64 h.k, .int .i64 h.f, .int .i64 h.l, .int .i64 h.c, .string h.s, .slice A n c] 47)).alloc (.cells #[.int .i64 0, .int .i64 0, .int .i64 0, .int .i64 0, .string ⟨#[]⟩, .slice none 0 0] 33)).alloc (.cells #[.int .i64 h.k, .int .i64 h.f, .int .i64 h.l, .int .i64 h.c, .string h.s, .slice none 0 0] 33)).heap.size = w.heap.size + 1 + 1 + 1 := by simp
  have hB0 : BX (((w.alloc (.cells #[.int .i64 h.k, .int .i64 h.f, .int .i64 h.l, .int .i64 h.c, .string h.s, .slice A n c] 47)).alloc (.cells #[.int .i64 0, .int .i64 0, .int .i64 0, .int .i64 0, .string ⟨#[]⟩, .slice none 0 0] 33)).alloc (.cells #[.int .i64 h.k, .int .i64 h.f, .int .i64 h.l, .int .i64 h.c, .string h.s, .slice none 0 0] 33)) w.heap.size 47 h A n c := ((BX.new w 47 h A n c).al (.cells #[.int .i64 0, .int .i64 0, .int .i64 0, .int .i64 0, .string ⟨#[]⟩, .slice none 0 0] 33)).al (.cells #[.int .i64 h.k, .int .i64 h.f, .int .i64 h.l, .int .i64 h.c, .string h.s, .slice none 0 0] 33)
  have hZ0 : EZ (((w.alloc (.cells #[.int .i64 h.k, .int .i64 h.f, .int .i64 h.l, .int .i64 h.c, .string h.s, .slice A n c] 47)).alloc (.cells #[.int .i64 0, .int .i64 0, .int .i64 0, .int .i64 0, .string ⟨#[]⟩, .slice none 0 0] 33)).alloc (.cells #[.int .i64 h.k, .int .i64 h.f, .int .i64 h.l, .int .i64 h.c, .string h.s, .slice none 0 0] 33)) (w.heap.size + 1) := by
    have h1 := heap_alloc_new (w.alloc (.cells #[.int .i64 h.k, .int .i64 h.f, .int .i64 h.l, .int .i64 h.c, .string h.s, .slice A n c] 47)) (.cells #[.int .i64 0, .int .i64 0, .int .i64 0, .int .i64 0, .string ⟨#[]⟩, .slice none 0 0] 33)
    rw [show (w.alloc (.cells #[.int .i64 h.k, .int .i64 h.f, .int .i64 h.l, .int .i64 h.c, .string h.s, .slice A n c] 47)).heap.size = w.heap.size + 1 by simp] at h1
    exact EZ.alloc (w := ((w.alloc (.cells #[.int .i64 h.k, .int .i64 h.f, .int .i64 h.l, .int .i64 h.c, .string h.s, .slice A n c] 47)).alloc (.cells #[.int .i64 0, .int .i64 0, .int .i64 0, .int .i64 0, .string ⟨#[]⟩, .slice none 0 0] 33))) h1 _
  have hO0 : BX (((w.alloc (.cells #[.int .i64 h.k, .int .i64 h.f, .int .i64 h.l, .int .i64 h.c, .string h.s, .slice A n c] 47)).alloc (.cells #[.int .i64 0, .int .i64 0, .int .i64 0, .int .i64 0, .string ⟨#[]⟩, .slice none 0 0] 33)).alloc (.cells #[.int .i64 h.k, .int .i64 h.f, .int .i64 h.l, .int .i64 h.c, .string h.s, .slice none 0 0] 33)) (w.heap.size + 1 + 1) 33 h none 0 0 := by
    have h1 := BX.new ((w.alloc (.cells #[.int .i64 h.k, .int .i64 h.f, .int .i64 h.l, .int .i64 h.c, .string h.s, .slice A n c] 47)).alloc (.cells #[.int .i64 0, .int .i64 0, .int .i64 0, .int .i64 0, .string ⟨#[]⟩, .slice none 0 0] 33)) 33 h none 0 0
    rw [show ((w.alloc (.cells #[.int .i64 h.k, .int .i64 h.f, .int .i64 h.l, .int .i64 h.c, .string h.s, .slice A n c] 47)).alloc (.cells #[.int .i64 0, .int .i64 0, .int .i64 0, .int .i64 0, .string ⟨#[]⟩, .slice none 0 0] 33)).heap.size = w.heap.size + 1 + 1 by simp] at h1
    exact h1
  replace hE := Lib.hid hE
  replace hX0 := Lib.hid hX0
  replace hn := Lib.hid hn
  replace hZ0 := Lib.hid hZ0
  replace hO0 := Lib.hid hO0
  replace hb0 := Lib.hid hb0
  replace hsz := Lib.hid hsz
  replace hmk := Lib.hid hmk
  clear hh hB0
  go_enter Tryz.func15, Tryz.ntmps15
  go_wp2_with fail
  go_loopw [16] (fun iv wr => ∃ (k : Nat) (rs : List XE) (A1 : Option Addr) (c1 : Nat), rs.length = k ∧ k ≤ n ∧ iv = .int .i64 (k : Int) ∧ BX wr (w.heap.size + 1 + 1) 33 h A1 k c1 ∧ wr.ownsRow (w.heap.size + 1 + 1 + 1) 33 6 (.slice A1 k c1) k (ecs rs) ∧ XRow wr (GX (w.heap.size + 1 + 1 + 1) (.slice A1 k c1) wr) rs ∧ rs.map XE.t = t.args.take k ∧ EZ wr (w.heap.size + 1) ∧ Below w.heap.size w wr ∧ w.heap.size + 1 + 1 + 1 ≤ wr.heap.size) (fun iv _ => n - (RowKit.intOf iv).toNat)
  case atStart => exact ⟨0, [], none, 0, rfl, Nat.zero_le _, rfl, hO0.out, ⟨rfl, Or.inl ⟨rfl, rfl⟩⟩, XRow.nil _ _, rfl, hZ0.out, hb0.out, by rw [hsz.out]; exact Nat.le_refl _⟩
  case round =>
    obtain ⟨k, rs, A1, c1, hrk, hk, rfl, hO, ho, hX, hP, hZ, hK, hwz⟩ := hrel
    clear hZ0 hO0 hb0 hsz
    have hz := hK.size
    replace hrk := Lib.hid hrk
    by_cases hlt : k < n
    · have hw1 : IntKind.i64.wrap ((k : Int) + 1) = (k : Int) + 1 := IntWalk.i64_in _ (by omega)
      have hkl : k < t.args.length := by rw [hn.out]; exact hlt
      have hXr := hX0.out.belowed hK
      obtain ⟨b, o, rfl, hb, Aj, cj, hxc, hxq⟩ := hX0.out.get k hkl
      obtain ⟨b', o', hbe, hb', Aj', cj', hxc', hxq'⟩ := hXr.get k hkl
      cases hbe
      have hC := fun W (r : XQ W (· < W.heap.size) t.args[k] Aj') => hE.out t.args[k] (List.getElem_mem hkl) Aj' cj' W r
      have hPn := (congrArg (· ++ [t.args[k]]) hP).trans (take_snocT hkl).symm
      obtain ⟨a, ha⟩ : ∃ a, t.args[k] = a := ⟨_, rfl⟩
      rw [ha] at hC hxc' hxq' hPn
      clear hxc hxq ha hX0 hXr hP
      obtain ⟨x0, x1, x2, x3, x4, x5⟩ := hxc'
      have hba := (Below.refl wr.heap.size wr).alloc (Nat.le_refl _) (.cells #[.int .i64 a.h.k, .int .i64 a.h.f, .int .i64 a.h.l, .int .i64 a.h.c, .string a.h.s, .slice Aj' a.args.length cj'] 47)
      have hxq2 := hxq'.belowed hba
      have ho0 := ho.alloc (.cells #[.int .i64 a.h.k, .int .i64 a.h.f, .int .i64 a.h.l, .int .i64 a.h.c, .string a.h.s, .slice Aj' a.args.length cj'] 47)
      have hO2 := hO.al (.cells #[.int .i64 a.h.k, .int .i64 a.h.f, .int .i64 a.h.l, .int .i64 a.h.c, .string a.h.s, .slice Aj' a.args.length cj'] 47)
      have hZ2 := hZ.alloc (.cells #[.int .i64 a.h.k, .int .i64 a.h.f, .int .i64 a.h.l, .int .i64 a.h.c, .string a.h.s, .slice Aj' a.args.length cj'] 47)
      have hsz0 : (wr.alloc (.cells #[.int .i64 a.h.k, .int .i64 a.h.f, .int .i64 a.h.l, .int .i64 a.h.c, .string a.h.s, .slice Aj' a.args.length cj'] 47)).heap.size = wr.heap.size + 1 := by simp
      have hX2 := hX.over (G := GX (w.heap.size + 1 + 1 + 1) (.slice A1 k c1) (wr.alloc (.cells #[.int .i64 a.h.k, .int .i64 a.h.f, .int .i64 a.h.l, .int .i64 a.h.c, .string a.h.s, .slice Aj' a.args.length cj'] 47))) (fun b hb => hba.block b hb.2.1) (GX.grow hba.size)
      have hK2 := below_call hba hK
      have hR2 : BX (wr.alloc (.cells #[.int .i64 a.h.k, .int .i64 a.h.f, .int .i64 a.h.l, .int .i64 a.h.c, .string a.h.s, .slice Aj' a.args.length cj'] 47)) wr.heap.size 47 a.h Aj' a.args.length cj' := BX.new wr 47 a.h Aj' a.args.length cj'
      have hown := own_ltT ho
      obtain ⟨gR, hgR⟩ : ∃ g, wr.heap.size = g := ⟨_, rfl⟩
      rw [hgR] at hR2 hsz0
      clear hxq' hba ho hX hO hZ
      go_upto_region 5 with fail
      obtain ⟨u0, hu0⟩ : ∃ W, wr.alloc (.cells #[.int .i64 a.h.k, .int .i64 a.h.f, .int .i64 a.h.l, .int .i64 a.h.c, .string a.h.s, .slice Aj' a.args.length cj'] 47) = W := ⟨_, rfl⟩
      rw [hu0] at hxq2 ho0 hO2 hZ2 hsz0 hX2 hK2 hR2 ⊢
      clear hu0 x0 x1 x2 x3 x4 x5
      obtain ⟨u1, hu1⟩ : ∃ W, u0.drew = W := ⟨_, rfl⟩
      have hbd : Below u0.heap.size u0 u0.drew := (Below.refl _ u0).drew
      have hxq3 := hxq2.belowed hbd
      have ho3 := own_keepT (w' := u0.drew) ho0 fun b hb => rfl
      have hO3 := hO2.ov hbd
      have hZ3 : EZ u0.drew (w.heap.size + 1) := hZ2
      have hX3 := hX2.over (w' := u0.drew) (G := GX (w.heap.size + 1 + 1 + 1) (.slice A1 k c1) u0.drew) (fun b hb => rfl) (fun b hb => hb)
      have hK3 := below_call hbd hK2
      have hR3 := hR2.ov hbd
      have hsz3 : u0.drew.heap.size = gR + 1 := hsz0
      rw [hu1] at hxq3 ho3 hO3 hZ3 hX3 hK3 hR3 hsz3
      clear hxq2 ho0 hO2 hZ2 hX2 hK2 hR2 hsz0 hbd
      have hS := (⟨hO3, hR3⟩ : BX u1 (w.heap.size + 1 + 1) 33 h A1 k c1 ∧ BX u1 gR 47 a.h Aj' a.args.length cj')
      replace hxq3 := Lib.hid hxq3
      replace ho3 := Lib.hid ho3
      replace hO3 := Lib.hid hO3
      replace hZ3 := Lib.hid hZ3
      replace hX3 := Lib.hid hX3
      replace hK3 := Lib.hid hK3
      replace hR3 := Lib.hid hR3
      replace hsz3 := Lib.hid hsz3
      replace hC := Lib.hid hC
      replace hPn := Lib.hid hPn
      replace hown := Lib.hid hown
      replace hK := Lib.hid hK
      refine region_anyT (n := 7) (S := (fun w' => BX w' (w.heap.size + 1 + 1) 33 h A1 k c1 ∧ BX w' gR 47 a.h Aj' a.args.length cj')) (by kernel_rfl) ?_
      rw [hu1]
      refine anyT_take (i := 0) (v := .pointer (some ⟨w.heap.size + 1 + 1, 5, none⟩)) rfl (by kernel_rfl) (by kernel_rfl) (fun _ _ _ h => h) (Or.inl ⟨by rfl, ?_⟩) hS ?_
      · intro w' hw'
        obtain ⟨q0, q1, q2, q3, q4, q5⟩ := hw'.1.all
        obtain ⟨r0, r1, r2, r3, r4, r5⟩ := hw'.2.all
        clear hw'
        go_simp
        try with_reducible rfl
      try simp only [Act.put, List.getElem_toArray, List.getElem_cons_zero, List.setIfInBounds_toArray, List.set_cons_zero, List.set_cons_succ]
      refine anyT_take (i := 1) (v := .slice A1 k c1) rfl (by kernel_rfl) (by kernel_rfl) (fun _ _ _ h => h) (Or.inl ⟨by rfl, ?_⟩) hS ?_
      · intro w' hw'
        obtain ⟨q0, q1, q2, q3, q4, q5⟩ := hw'.1.all
        obtain ⟨r0, r1, r2, r3, r4, r5⟩ := hw'.2.all
        clear hw'
        go_simp
        try with_reducible rfl
      try simp only [Act.put, List.getElem_toArray, List.getElem_cons_zero, List.getElem_cons_succ, List.setIfInBounds_toArray, List.set_cons_zero, List.set_cons_succ]
      refine anyT_take (i := 2) (v := .agg #[.int .i64 a.h.k, .int .i64 a.h.f, .int .i64 a.h.l, .int .i64 a.h.c, .string a.h.s, .slice Aj' a.args.length cj']) rfl (by kernel_rfl) (by kernel_rfl) (fun _ _ _ h => h) (Or.inl ⟨by rfl, ?_⟩) hS ?_
      · intro w' hw'
        obtain ⟨q0, q1, q2, q3, q4, q5⟩ := hw'.1.all
        obtain ⟨r0, r1, r2, r3, r4, r5⟩ := hw'.2.all
        clear hw'
        go_simp
        try with_reducible rfl
      try simp only [Act.put, List.getElem_toArray, List.getElem_cons_zero, List.getElem_cons_succ, List.setIfInBounds_toArray, List.set_cons_zero, List.set_cons_succ]
      refine anyT_one (i := 3) (by kernel_rfl) ?_
      refine wpOp_step rfl (fun K hK => ?_)
      replace hK := Lib.hid hK
      go_simp
      (with_reducible refine (hC.out _ hxq3.out).mono ?_)
      rintro e w1 ⟨A2, c2, rfl, hXt, hb1⟩
      have hs3 := hsz3.out
      have hO1 := hO3.out.ov hb1
      have hR1 := hR3.out.ov hb1
      have ho1 := own_keepT ho3.out fun b hb => hb1.block b (by have := (hown.out b hb).2; omega)
      have hX1 := hX3.out.over (G := GX (w.heap.size + 1 + 1 + 1) (.slice A1 k c1) w1) (fun b hb => hb1.block b hb.2.1) (GX.grow hb1.size)
      have hXt1 : XQ w1 (GX (w.heap.size + 1 + 1 + 1) (.slice A1 k c1) w1) a A2 := hXt.over (fun _ _ => rfl) fun b hb => ⟨by omega, hb.2, fun e => by have := (hown.out b e.symm).2; omega⟩
      have hKw1 := below_call hb1 hK3.out
      have hZ1 : EZ w1 (w.heap.size + 1) := (hb1.block _ (lt_of_get hZ3.out)).trans hZ3.out
      have hsz1 : gR + 1 ≤ w1.heap.size := by have := hb1.size; omega
      refine hK.out _ _ ⟨fun _ => ⟨hO1, hR1⟩, ?_⟩
      clear hK K hS hXt ho3 hX3 hK3 hO3 hR3 hZ3 hxq3 hb1 hs3 hsz3
      try simp only [Act.put, List.getElem_toArray, List.getElem_cons_zero, List.getElem_cons_succ, List.setIfInBounds_toArray, List.set_cons_zero, List.set_cons_succ]
      have hba := (Below.refl w1.heap.size w1).alloc (Nat.le_refl _) (.cells #[.int .i64 a.h.k, .int .i64 a.h.f, .int .i64 a.h.l, .int .i64 a.h.c, .string a.h.s, .slice A2 a.args.length c2] 33)
      have hR6 := heap_alloc_new w1 (.cells #[.int .i64 a.h.k, .int .i64 a.h.f, .int .i64 a.h.l, .int .i64 a.h.c, .string a.h.s, .slice A2 a.args.length c2] 33)
      have ho2 := ho1.alloc (.cells #[.int .i64 a.h.k, .int .i64 a.h.f, .int .i64 a.h.l, .int .i64 a.h.c, .string a.h.s, .slice A2 a.args.length c2] 33)
      have hX2 := hX1.over (G := GX (w.heap.size + 1 + 1 + 1) (.slice A1 k c1) (w1.alloc (.cells #[.int .i64 a.h.k, .int .i64 a.h.f, .int .i64 a.h.l, .int .i64 a.h.c, .string a.h.s, .slice A2 a.args.length c2] 33))) (fun b hb => hba.block b hb.2.1) (GX.grow hba.size)
      have hXt2 := hXt1.over (G := GX (w.heap.size + 1 + 1 + 1) (.slice A1 k c1) (w1.alloc (.cells #[.int .i64 a.h.k, .int .i64 a.h.f, .int .i64 a.h.l, .int .i64 a.h.c, .string a.h.s, .slice A2 a.args.length c2] 33))) (fun b hb => hba.block b hb.2.1) (GX.grow hba.size)
      have hK2 := below_call hba hKw1
      have hO2 := hO1.al (.cells #[.int .i64 a.h.k, .int .i64 a.h.f, .int .i64 a.h.l, .int .i64 a.h.c, .string a.h.s, .slice A2 a.args.length c2] 33)
      have hRr2 := hR1.al (.cells #[.int .i64 a.h.k, .int .i64 a.h.f, .int .i64 a.h.l, .int .i64 a.h.c, .string a.h.s, .slice A2 a.args.length c2] 33)
      have hZ2 := hZ1.alloc (.cells #[.int .i64 a.h.k, .int .i64 a.h.f, .int .i64 a.h.l, .int .i64 a.h.c, .string a.h.s, .slice A2 a.args.length c2] 33)
      obtain ⟨nb, hnb⟩ : ∃ nb, w1.heap.size = nb := ⟨_, rfl⟩
      have hs2 : (w1.alloc (.cells #[.int .i64 a.h.k, .int .i64 a.h.f, .int .i64 a.h.l, .int .i64 a.h.c, .string a.h.s, .slice A2 a.args.length c2] 33)).heap.size = nb + 1 := by simp [hnb]
      rw [hnb] at hR6 hsz1
      obtain ⟨w2, hw2⟩ : ∃ W, w1.alloc (.cells #[.int .i64 a.h.k, .int .i64 a.h.f, .int .i64 a.h.l, .int .i64 a.h.c, .string a.h.s, .slice A2 a.args.length c2] 33) = W := ⟨_, rfl⟩
      rw [hw2] at hR6 ho2 hX2 hXt2 hK2 hO2 hRr2 hZ2 hs2
      clear hba ho1 hX1 hXt1 hKw1 hO1 hR1 hZ1
      refine anyT_one (i := 4) (by kernel_rfl) ?_
      refine wpOp_step rfl (fun K hK => ?_)
      replace hK := Lib.hid hK
      go_simp
      refine hK.out _ _ ⟨fun _ => ⟨hO2, hRr2⟩, ?_⟩
      clear hK K
      try simp only [Act.put, List.getElem_toArray, List.getElem_cons_zero, List.getElem_cons_succ, List.setIfInBounds_toArray, List.set_cons_zero, List.set_cons_succ]
      refine anyT_one (i := 5) (by kernel_rfl) ?_
      refine wpOp_step rfl (fun K hK => ?_)
      replace hK := Lib.hid hK
      refine step_append_lies _ rfl (.tmp 21) (.tmp 24) 31 rfl (w.heap.size + 1 + 1 + 1) 33 i0 (.agg #[.int .i64 0, .int .i64 0, .int .i64 0, .int .i64 0, .string ⟨#[]⟩, .slice none 0 0]) 6 72 Tryz.underlying31 hi hz0 hz1 hz2 rfl (by decide) _ k (ecs rs) (by simp [Act.eval]) ho2 ⟨nb, 0, none⟩ 1 1 [.int .i64 a.h.k, .int .i64 a.h.f, .int .i64 a.h.l, .int .i64 a.h.c, .string a.h.s, .slice A2 a.args.length c2] (by simp [Act.eval]) rfl (World.news_of_block hR6) (by simp [Value.oneCell']) (by decide) (by unfold maxLen; omega) (by omega) (by omega) (nb + 1) hs2 ?_
      intro g6 cap6 w6 ho6 hg6 hgb hlt6
      have hX6 := row_grown (k := k + 1) (cap := cap6) (r := ⟨a, A2, c2⟩) hg6 (by rw [hs2]; exact hgb) hX2 hXt2
      have hown2 := own_ltT ho2
      have hlow : ∀ q, q < w.heap.size + 1 + 1 + 1 → some q ≠ (Value.slice A1 k c1).ownBlock := fun q hq e => by have := (hown2 q e.symm).1; omega
      have hK6 : Below w.heap.size w w6 := hK2.trans ⟨hg6.os, hg6.tape, hg6.output, hg6.size, fun q hq => hg6.block q (by have := hK2.size; omega) (hlow q (by omega))⟩
      have hO6 : BX w6 (w.heap.size + 1 + 1) 33 h A1 k c1 := (hg6.block _ hO2.lt (hlow _ (by omega))).trans hO2
      have hR7 : BX w6 gR 47 a.h Aj' a.args.length cj' := (hg6.block _ hRr2.lt (fun e => by have := (hown.out gR e.symm).2; omega)).trans hRr2
      have hZ6 : EZ w6 (w.heap.size + 1) := (hg6.block _ (lt_of_get hZ2) (hlow _ (by omega))).trans hZ2
      have hs6 : w.heap.size + 1 + 1 + 1 ≤ w6.heap.size := by have h1 := hg6.size; omega
      have hg6l : g6 ≠ w.heap.size + 1 + 1 ∧ g6 ≠ w.heap.size + 1 := by
        rcases hgb with e | e
        · have := (hown2 g6 e).1; omega
        · omega
      have hl6 : (rs ++ [(⟨a, A2, c2⟩ : XE)]).length = k + 1 := by rw [List.length_append, hrk.out]; rfl
      have hP6 : (rs ++ [(⟨a, A2, c2⟩ : XE)]).map XE.t = t.args.take (k + 1) := by rw [List.map_append]; exact hPn.out
      have he6 : ecs rs ++ [.int .i64 a.h.k, .int .i64 a.h.f, .int .i64 a.h.l, .int .i64 a.h.c, .string a.h.s, .slice A2 a.args.length c2] = ecs (rs ++ [(⟨a, A2, c2⟩ : XE)]) := by rw [ecs_app]; rfl
      rw [he6] at ho6
      have hS6 := (⟨hO6, hR7⟩ : BX w6 (w.heap.size + 1 + 1) 33 h A1 k c1 ∧ BX w6 gR 47 a.h Aj' a.args.length cj')
      refine hK.out _ _ ⟨fun _ => hS6, ?_⟩
      clear hK K ho2 hX2 hXt2 hK2 hR6 hg6 hgb he6 hown2 hO2 hRr2 hZ2 hs2 hR7
      -- the store
      have hO7 : BX (w6.setCell ⟨w.heap.size + 1 + 1, 5, none⟩ (.slice (some ⟨g6, 0, none⟩) (k + 1) cap6)) (w.heap.size + 1 + 1) 33 h (some ⟨g6, 0, none⟩) (k + 1) cap6 := heap_set w6 _ 5 _ _ _ hO6
      have ho7 := own_keepT (w' := w6.setCell ⟨w.heap.size + 1 + 1, 5, none⟩ (.slice (some ⟨g6, 0, none⟩) (k + 1) cap6)) ho6 fun b hb => by cases hb; exact Below.heap_setCell _ _ _ _ hg6l.1
      have hX7 := hX6.over (w' := w6.setCell ⟨w.heap.size + 1 + 1, 5, none⟩ (.slice (some ⟨g6, 0, none⟩) (k + 1) cap6)) (G := GX (w.heap.size + 1 + 1 + 1) (.slice (some ⟨g6, 0, none⟩) (k + 1) cap6) (w6.setCell ⟨w.heap.size + 1 + 1, 5, none⟩ (.slice (some ⟨g6, 0, none⟩) (k + 1) cap6))) (fun b hb => Below.heap_setCell _ _ _ _ (by have := hb.1; simp; omega)) (GX.grow (by rw [World.size_setCell]; exact Nat.le_refl _))
      have hZ7 : EZ (w6.setCell ⟨w.heap.size + 1 + 1, 5, none⟩ (.slice (some ⟨g6, 0, none⟩) (k + 1) cap6)) (w.heap.size + 1) := (Below.heap_setCell _ _ _ _ (by simp)).trans hZ6
      have hK7 : Below w.heap.size w (w6.setCell ⟨w.heap.size + 1 + 1, 5, none⟩ (.slice (some ⟨g6, 0, none⟩) (k + 1) cap6)) := hK6.trans (((Keep.refl (fun x => x = w.heap.size + 1 + 1) w6).set ⟨w.heap.size + 1 + 1, 5, none⟩ rfl _).below (by omega) fun b hb => by omega)
      have hs7 : w.heap.size + 1 + 1 + 1 ≤ (w6.setCell ⟨w.heap.size + 1 + 1, 5, none⟩ (.slice (some ⟨g6, 0, none⟩) (k + 1) cap6)).heap.size := by rw [World.size_setCell]; exact hs6
      obtain ⟨o0, o1, o2, o3, o4, o5⟩ := hO6.all
      have ol := hO6.lt
      have of : ∀ i, w6.frozen? ⟨w.heap.size + 1 + 1, i, none⟩ = false := fun i => Lib.frozen_of_heap hO6 i
      clear ho6 hX6 hZ6 hK6 hs6 hO6 hlow
      replace ho7 := Lib.hid ho7
      replace hX7 := Lib.hid hX7
      replace hZ7 := Lib.hid hZ7
      replace hK7 := Lib.hid hK7
      replace hs7 := Lib.hid hs7
      replace hO7 := Lib.hid hO7
      replace hl6 := Lib.hid hl6
      replace hP6 := Lib.hid hP6
      try simp only [Act.put, List.getElem_toArray, List.getElem_cons_zero, List.getElem_cons_succ, List.setIfInBounds_toArray, List.set_cons_zero, List.set_cons_succ]
      refine anyT_take (i := 6) (v := .pointer (some ⟨w.heap.size + 1 + 1, 5, none⟩)) rfl (by kernel_rfl) (by kernel_rfl) (fun _ _ _ h => h) (Or.inl ⟨by rfl, ?_⟩) hS6 ?_
      · intro w' hw'
        obtain ⟨q0, q1, q2, q3, q4, q5⟩ := hw'.1.all
        obtain ⟨r0, r1, r2, r3, r4, r5⟩ := hw'.2.all
        clear hw'
        go_simp
        try with_reducible rfl
      try simp only [Act.put, List.getElem_toArray, List.getElem_cons_zero, List.getElem_cons_succ, List.setIfInBounds_toArray, List.set_cons_zero, List.set_cons_succ]
      refine anyT_one (i := 7) (by kernel_rfl) ?_
      refine wpOp_step rfl (fun K hK => ?_)
      replace hK := Lib.hid hK
      go_simp
      refine hK.out _ _ ⟨fun h => absurd h (by decide), ?_⟩
      clear hK K o0 o1 o2 o3 o4 o5 ol of
      try simp only [Act.put, List.getElem_toArray, List.getElem_cons_zero, List.getElem_cons_succ, List.setIfInBounds_toArray, List.set_cons_zero, List.set_cons_succ]
      refine anyT_done (by kernel_rfl) ?_ _
      go_wp2_with fail
      go_roundw
      case rel => exact ⟨k + 1, rs ++ [⟨a, A2, c2⟩], some ⟨g6, 0, none⟩, cap6, hl6.out, by omega, by go_num, hO7.out, ho7.out, hX7.out, hP6.out, hZ7.out, hK7.out, hs7.out⟩
      case measure => (simp [RowKit.intOf]; omega)
    · obtain rfl : k = n := by omega
      have hl := hrk.out
      have hlt0 : t.args.take k = t.args := by rw [← hn.out, List.take_length]
      rw [hlt0] at hP
      have hXn := hX.over (G := fun b => w.heap.size + 1 < b ∧ b < wr.heap.size) (fun _ _ => rfl) fun b hb => ⟨by have := hb.1; omega, hb.2.1⟩
      have ho0 : wr.ownsRow (w.heap.size + 1 + 1 + 1) 33 6 (.slice A1 k c1) rs.length (ecs rs) := by rw [hl]; exact ho
      have hq := (row_XQ ho0 hXn (fun g h1 h2 => ⟨by omega, h2⟩) (by omega) h).2
      rw [hP, hmk.out] at hq
      obtain ⟨o0, o1, o2, o3, o4, o5⟩ := hO.all
      have ol := hO.lt
      obtain ⟨zf, zl, z0, z1, z2, z3, z4, z5⟩ := hZ.all
      have six := hZ.six (.int .i64 h.k) (.int .i64 h.f) (.int .i64 h.l) (.int .i64 h.c) (.string h.s) (.slice A1 k c1)
      replace hq := Lib.hid hq
      replace hK := Lib.hid hK
      replace six := Lib.hid six
      clear hX ho hXn ho0 hP hO hZ
      go_wp2_with fail
      refine bodyPost_ret (v := .agg #[.int .i64 h.k, .int .i64 h.f, .int .i64 h.l, .int .i64 h.c, .string h.s, .slice A1 k c1]) (by simp [results, Tryz.results15, go_sem, six.out]) rfl ?_
      refine ⟨A1, c1, rfl, ?_, ?_⟩
      · exact hq.out.over (fun b hb => set6_far _ _ _ _ _ _ _ _ b (by omega)) fun b hb => ⟨by omega, by rw [set6_size]; exact hb.2⟩
      · exact hK.out.trans ((set6_keep wr (w.heap.size + 1) _ _ _ _ _ _).below hz fun b hb => by omega)
theorem Told_all : ∀ (t : XT), (∀ (A : Option Addr) (c : Nat) (w : World), XQ w (· < w.heap.size) t A → Calls Tryz.prog 15 #[xv t.h A t.args.length c] w (TRt t w))
  | .z h => fun A c w hX => Told_t1 _ A c w hX fun a ha => by simp [XT.args] at ha
  | .u h a => fun A c w hX => Told_t1 _ A c w hX fun x hx => by
    have h1 := Told_all a
    simp [XT.args] at hx
    subst hx
    exact fun Aj cj W q => h1 Aj cj W q
  | .b h a1 a2 => fun A c w hX => Told_t1 _ A c w hX fun x hx => by
    have h1 := Told_all a1
    have h2 := Told_all a2
    simp [XT.args] at hx
    rcases hx with rfl | rfl
    · exact fun Aj cj W q => h1 Aj cj W q
    · exact fun Aj cj W q => h2 Aj cj W q
  | .t h a1 a2 a3 => fun A c w hX => Told_t1 _ A c w hX fun x hx => by
    have h1 := Told_all a1
    have h2 := Told_all a2
    have h3 := Told_all a3
    simp [XT.args] at hx
    rcases hx with rfl | rfl | rfl
    · exact fun Aj cj W q => h1 Aj cj W q
    · exact fun Aj cj W q => h2 Aj cj W q
    · exact fun Aj cj W q => h3 Aj cj W q
end Go.Proofs.YtcifljbcoioogaaGreatDoor

/-
  Graph.build; Or, Xor, Mux.
-/
import Derived.Test.YtinfkjflomdhbaaGi
namespace Go.Proofs.Ytinfkjflomdhbaa
open Go.RowKit Go.Lib Go.Maps
set_option maxRecDepth 100000 in
theorem build_t {B p V c : Nat} {caps : Array Value} {F : List PN} {r : List PN × Nat} {A : Option Addr} {l : List Int} (w : World) (h : GI w B p F) (en : ∀ args w, (callFunc V args).run Try.prog w = .ok (.enter V args) w)
    (hA : RL w A l) (hll : l.length ≤ 1000) (hlb : ∀ x ∈ l, x < 4611686018427387904) (hlf : l.any (foreign F.length) = false)
    (hC : ∀ bg bf W, BV W B p F bg bf → Below w.heap.size w W → Calls Try.prog V (#[gt bg bf] ++ caps) W (GV W B p r.1 (.int .i64 ((r.2 : Nat) : Int)))) :
    Calls Try.prog 31 #[pg p, .func (.func V) #[] caps, .slice A l.length c] w (GV w B p r.1 (.tuple #[.int .i64 ((r.2 : Nat) : Int), .int .i64 0])) := by
  have hba := (Below.refl w.heap.size w).alloc (Nat.le_refl _) (.cells #[pg p] 26)
  have hb1 := BI.new w 26 (pg p)
  have hH := has_t l A c _ (h.over hba) (hA.over hba) hll hlb
  rw [hlf] at hH
  have hg1 := h.over hba
  have hL := fun W (q : GI W B p F) => Len_t W q
  obtain ⟨bg, hbg⟩ : ∃ g, w.heap.size = g := ⟨_, rfl⟩
  obtain ⟨w1, hw1⟩ : ∃ W, w.alloc (.cells #[pg p] 26) = W := ⟨_, rfl⟩
  rw [hw1] at hba hb1 hH hg1
  rw [hbg] at hb1
  have c0 := hb1.c
  have cl := hb1.lt
  obtain ⟨n, hn⟩ : ∃ n, l.length = n := ⟨_, rfl⟩
  rw [hn] at hH ⊢
  unfold RV at hH
  unfold RW at hL
  have hp := h.lt
  replace hn := Lib.hid hn
  replace hH := Lib.hid hH
  replace hL := Lib.hid hL
  replace hC := Lib.hid hC
  replace hba := Lib.hid hba
  replace hb1 := Lib.hid hb1
  replace hg1 := Lib.hid hg1
  clear hA hll hlb hlf h
  go_enter Try.func31, Try.ntmps31
  go_wp2_with fail
  (with_reducible refine hH.out.mono ?_)
  rintro e w2 ⟨rfl, hb2⟩
  have hg2 := hg1.out.over hb2
  have hv2 := hb1.out.over hb2
  have d0 := hv2.c
  have dl := hv2.lt
  have hbe2 : Below w.heap.size w w2 := below_call hb2 hba.out hba.out.size
  replace hg2 := Lib.hid hg2
  replace hv2 := Lib.hid hv2
  replace hbe2 := Lib.hid hbe2
  clear hb2 c0 cl hw1
  go_wp2_with fail
  (with_reducible refine (hL.out _ hg2.out).mono ?_)
  rintro e w9 ⟨rfl, hw9⟩
  subst hw9
  have hba3 := (Below.refl w2.heap.size w2).alloc (Nat.le_refl _) (.cells #[.int .i64 0] 40)
  have hf3 := BI.new w2 40 (.int .i64 0)
  have hv3 := hv2.out.over hba3
  have hg3 := hg2.out.over hba3
  have hbe3 : Below w.heap.size w (w2.alloc (.cells #[.int .i64 0] 40)) := hbe2.out.alloc hbe2.out.size _
  have hK := hC.out bg w2.heap.size _ ⟨hg3, hv3, hf3⟩ hbe3
  have hWP3 := WP.of hbe3 hp
  replace hK := Lib.hid hK
  replace hBV := Lib.hid (BV.mk hg3 hv3 hf3)
  replace hWP3 := Lib.hid hWP3
  replace hf3 := Lib.hid hf3
  clear hv3 hg3 hba3 hbe3 hg2 hv2 hbe2 hC hL hH hba hb1 hg1
  go_wp2_with fail
  (with_reducible refine hK.out.mono ?_)
  rintro e w4 ⟨rfl, hg4, hk4⟩
  have hv4 := hBV.out.wp hg4 hk4
  have hw4 := hWP3.out.trans hk4
  have k0 := hv4.f.c
  have kl := hv4.f.lt
  replace hg4 := Lib.hid hg4
  replace hw4 := Lib.hid hw4
  clear hv4 hk4 hK hBV hWP3 hf3 d0 dl
  go_wp2_with fail
  go_ret2
  exact ⟨rfl, hg4.out, hw4.out⟩
theorem RL.three (w : World) (a b c : Int) : RL (w.alloc (.cells #[.int .i64 a, .int .i64 b, .int .i64 c] 3)) (some ⟨w.heap.size, 0, none⟩) [a, b, c] := fun _ => by
  have hb := heap_alloc_new w (.cells #[.int .i64 a, .int .i64 b, .int .i64 c] 3)
  refine ⟨w.heap.size, 0, rfl, lt_of_get hb, fun j hj => ?_⟩
  rw [Lib.cell_of_heap hb]
  have : j = 0 ∨ j = 1 ∨ j = 2 := by simp at hj; omega
  rcases this with rfl | rfl | rfl <;> rfl
set_option maxRecDepth 100000 in
theorem Or_t {B p : Nat} {F : List PN} (a b : Nat) (w : World) (h : GI w B p F) (hl : F.length < 49990) (ha : a / 2 < F.length) (hb : b / 2 < F.length) :
    Calls Try.prog 17 #[pg p, .int .i64 (a : Int), .int .i64 (b : Int)] w (GV w B p (orF F a b).1 (.tuple #[.int .i64 (((orF F a b).2 : Nat) : Int), .int .i64 0])) := by
  have qa1 := BI.new w 3 (.int .i64 (a : Int))
  have hb1 := (Below.refl w.heap.size w).alloc (Nat.le_refl _) (.cells #[.int .i64 (a : Int)] 3)
  have qb1 := BI.new (w.alloc (.cells #[.int .i64 (a : Int)] 3)) 3 (.int .i64 (b : Int))
  have s1 : (w.alloc (.cells #[.int .i64 (a : Int)] 3)).heap.size = w.heap.size + 1 := by simp
  rw [s1] at qb1
  have qa2 := qa1.over ((Below.refl _ _).alloc (Nat.le_refl _) (.cells #[.int .i64 (b : Int)] 3))
  have hb2 := hb1.alloc hb1.size (.cells #[.int .i64 (b : Int)] 3)
  have s2 : ((w.alloc (.cells #[.int .i64 (a : Int)] 3)).alloc (.cells #[.int .i64 (b : Int)] 3)).heap.size = w.heap.size + 2 := by simp
  obtain ⟨w2, hw2⟩ : ∃ W, (w.alloc (.cells #[.int .i64 (a : Int)] 3)).alloc (.cells #[.int .i64 (b : Int)] 3) = W := ⟨_, rfl⟩
  rw [hw2] at qa2 qb1 hb2 s2
  have a0 := qa2.c
  have al := qa2.lt
  have b0 := qb1.c
  have bl := qb1.lt
  have hb3 := hb2.alloc hb2.size (.cells #[.int .i64 (a : Int), .int .i64 (b : Int)] 3)
  have hs3 := (Below.refl w2.heap.size w2).alloc (Nat.le_refl _) (.cells #[.int .i64 (a : Int), .int .i64 (b : Int)] 3)
  have qa3 := qa2.over hs3
  have qb3 := qb1.over hs3
  have hR := RL.two w2 (a : Int) (b : Int)
  have hB := build_t (V := 32) (c := 2) (caps := #[pt w.heap.size, pt (w.heap.size + 1)]) (r := orF F a b) _ (h.over hb3) (enters_of Try.func32 (by kernel_rfl) rfl) hR (by simp) (by simp; omega) (by simp [foreign_not ha, foreign_not hb])
    (fun bg bf W hv hW => Or1_t a b W hv (qa3.over hW) (qb3.over hW) hl ha hb)
  have hWP : WP p w (w2.alloc (.cells #[.int .i64 (a : Int), .int .i64 (b : Int)] 3)) := WP.of hb3 h.lt
  obtain ⟨r, hr⟩ : ∃ r, orF F a b = r := ⟨_, rfl⟩
  rw [hr] at hB ⊢
  unfold GV at hB
  simp only [List.length_cons, List.length_nil, Nat.zero_add, Nat.reduceAdd] at hB
  replace hB := Lib.hid hB
  replace hWP := Lib.hid hWP
  replace s2 := Lib.hid s2
  clear qa1 qb1 qa2 qa3 qb3 hb1 hb2 hb3 hs3 hR hr h s1 hl ha hb
  go_enter Try.func17, Try.ntmps17
  go_wp2_with fail
  (with_reducible refine hB.out.mono ?_)
  rintro e w4 ⟨rfl, hg4, hk4⟩
  replace hg4 := Lib.hid hg4
  replace hk4 := Lib.hid (hWP.out.trans hk4)
  clear a0 b0 al bl hB hWP
  go_wp2_with fail
  go_ret2
  exact ⟨rfl, hg4.out, hk4.out⟩
set_option maxRecDepth 100000 in
theorem Xor_t {B p : Nat} {F : List PN} (a b : Nat) (w : World) (h : GI w B p F) (hl : F.length < 49990) (ha : a / 2 < F.length) (hb : b / 2 < F.length) :
    Calls Try.prog 25 #[pg p, .int .i64 (a : Int), .int .i64 (b : Int)] w (GV w B p (xorF F a b).1 (.tuple #[.int .i64 (((xorF F a b).2 : Nat) : Int), .int .i64 0])) := by
  have qa1 := BI.new w 3 (.int .i64 (a : Int))
  have hb1 := (Below.refl w.heap.size w).alloc (Nat.le_refl _) (.cells #[.int .i64 (a : Int)] 3)
  have qb1 := BI.new (w.alloc (.cells #[.int .i64 (a : Int)] 3)) 3 (.int .i64 (b : Int))
  have s1 : (w.alloc (.cells #[.int .i64 (a : Int)] 3)).heap.size = w.heap.size + 1 := by simp
  rw [s1] at qb1
  have qa2 := qa1.over ((Below.refl _ _).alloc (Nat.le_refl _) (.cells #[.int .i64 (b : Int)] 3))
  have hb2 := hb1.alloc hb1.size (.cells #[.int .i64 (b : Int)] 3)
  have s2 : ((w.alloc (.cells #[.int .i64 (a : Int)] 3)).alloc (.cells #[.int .i64 (b : Int)] 3)).heap.size = w.heap.size + 2 := by simp
  obtain ⟨w2, hw2⟩ : ∃ W, (w.alloc (.cells #[.int .i64 (a : Int)] 3)).alloc (.cells #[.int .i64 (b : Int)] 3) = W := ⟨_, rfl⟩
  rw [hw2] at qa2 qb1 hb2 s2
  have a0 := qa2.c
  have al := qa2.lt
  have b0 := qb1.c
  have bl := qb1.lt
  have hb3 := hb2.alloc hb2.size (.cells #[.int .i64 (a : Int), .int .i64 (b : Int)] 3)
  have hs3 := (Below.refl w2.heap.size w2).alloc (Nat.le_refl _) (.cells #[.int .i64 (a : Int), .int .i64 (b : Int)] 3)
  have qa3 := qa2.over hs3
  have qb3 := qb1.over hs3
  have hR := RL.two w2 (a : Int) (b : Int)
  have hB := build_t (V := 36) (c := 2) (caps := #[pt w.heap.size, pt (w.heap.size + 1)]) (r := xorF F a b) _ (h.over hb3) (enters_of Try.func36 (by kernel_rfl) rfl) hR (by simp) (by simp; omega) (by simp [foreign_not ha, foreign_not hb])
    (fun bg bf W hv hW => Xor1_t a b W hv (qa3.over hW) (qb3.over hW) hl ha hb)
  have hWP : WP p w (w2.alloc (.cells #[.int .i64 (a : Int), .int .i64 (b : Int)] 3)) := WP.of hb3 h.lt
  obtain ⟨r, hr⟩ : ∃ r, xorF F a b = r := ⟨_, rfl⟩
  rw [hr] at hB ⊢
  unfold GV at hB
  simp only [List.length_cons, List.length_nil, Nat.zero_add, Nat.reduceAdd] at hB
  replace hB := Lib.hid hB
  replace hWP := Lib.hid hWP
  replace s2 := Lib.hid s2
  clear qa1 qb1 qa2 qa3 qb3 hb1 hb2 hb3 hs3 hR hr h s1 hl ha hb
  go_enter Try.func25, Try.ntmps25
  go_wp2_with fail
  (with_reducible refine hB.out.mono ?_)
  rintro e w4 ⟨rfl, hg4, hk4⟩
  replace hg4 := Lib.hid hg4
  replace hk4 := Lib.hid (hWP.out.trans hk4)
  clear a0 b0 al bl hB hWP
  go_wp2_with fail
  go_ret2
  exact ⟨rfl, hg4.out, hk4.out⟩
end Go.Proofs.Ytinfkjflomdhbaa

/-
  Graph.Mux; Or and Mux of numbers that are no literals.
-/
import Derived.Test.YtinfkjflomdhbaaGj
namespace Go.Proofs.Ytinfkjflomdhbaa
open Go.RowKit Go.Lib Go.Maps
set_option maxRecDepth 100000 in
theorem Mux_t {B p : Nat} {F : List PN} (c a b : Nat) (w : World) (h : GI w B p F) (hl : F.length < 49990) (hc : c / 2 < F.length) (ha : a / 2 < F.length) (hb : b / 2 < F.length) :
    Calls Try.prog 18 #[pg p, .int .i64 (c : Int), .int .i64 (a : Int), .int .i64 (b : Int)] w (GV w B p (muxF F c a b).1 (.tuple #[.int .i64 (((muxF F c a b).2 : Nat) : Int), .int .i64 0])) := by
  have qc1 := BI.new w 3 (.int .i64 (c : Int))
  have hb1 := (Below.refl w.heap.size w).alloc (Nat.le_refl _) (.cells #[.int .i64 (c : Int)] 3)
  have qa1 := BI.new (w.alloc (.cells #[.int .i64 (c : Int)] 3)) 3 (.int .i64 (a : Int))
  have s1 : (w.alloc (.cells #[.int .i64 (c : Int)] 3)).heap.size = w.heap.size + 1 := by simp
  rw [s1] at qa1
  have qc2 := qc1.over ((Below.refl _ _).alloc (Nat.le_refl _) (.cells #[.int .i64 (a : Int)] 3))
  have hb2 := hb1.alloc hb1.size (.cells #[.int .i64 (a : Int)] 3)
  have qb1 := BI.new ((w.alloc (.cells #[.int .i64 (c : Int)] 3)).alloc (.cells #[.int .i64 (a : Int)] 3)) 3 (.int .i64 (b : Int))
  have s2 : ((w.alloc (.cells #[.int .i64 (c : Int)] 3)).alloc (.cells #[.int .i64 (a : Int)] 3)).heap.size = w.heap.size + 1 + 1 := by simp
  rw [s2] at qb1
  have qc3 := qc2.over ((Below.refl _ _).alloc (Nat.le_refl _) (.cells #[.int .i64 (b : Int)] 3))
  have qa3 := qa1.over ((Below.refl _ _).alloc (Nat.le_refl _) (.cells #[.int .i64 (b : Int)] 3))
  have hb3 := hb2.alloc hb2.size (.cells #[.int .i64 (b : Int)] 3)
  have s3 : (((w.alloc (.cells #[.int .i64 (c : Int)] 3)).alloc (.cells #[.int .i64 (a : Int)] 3)).alloc (.cells #[.int .i64 (b : Int)] 3)).heap.size = w.heap.size + 1 + 1 + 1 := by simp
  obtain ⟨w3, hw3⟩ : ∃ W, ((w.alloc (.cells #[.int .i64 (c : Int)] 3)).alloc (.cells #[.int .i64 (a : Int)] 3)).alloc (.cells #[.int .i64 (b : Int)] 3) = W := ⟨_, rfl⟩
  rw [hw3] at qc3 qa3 qb1 hb3 s3
  have a0 := qa3.c
  have al := qa3.lt
  have b0 := qb1.c
  have bl := qb1.lt
  have c0 := qc3.c
  have cl := qc3.lt
  have hb4 := hb3.alloc hb3.size (.cells #[.int .i64 (c : Int), .int .i64 (a : Int), .int .i64 (b : Int)] 3)
  have hs4 := (Below.refl w3.heap.size w3).alloc (Nat.le_refl _) (.cells #[.int .i64 (c : Int), .int .i64 (a : Int), .int .i64 (b : Int)] 3)
  have qa4 := qa3.over hs4
  have qb4 := qb1.over hs4
  have qc4 := qc3.over hs4
  have hR := RL.three w3 (c : Int) (a : Int) (b : Int)
  have hB := build_t (V := 34) (c := 3) (caps := #[pt (w.heap.size + 1), pt (w.heap.size + 1 + 1), pt w.heap.size]) (r := muxF F c a b) _ (h.over hb4) (enters_of Try.func34 (by kernel_rfl) rfl) hR (by simp) (by simp; omega) (by simp [foreign_not ha, foreign_not hb, foreign_not hc])
    (fun bg bf W hv hW => Mux1_t a b c W hv (qa4.over hW) (qb4.over hW) (qc4.over hW) hl ha hb hc)
  have hWP : WP p w (w3.alloc (.cells #[.int .i64 (c : Int), .int .i64 (a : Int), .int .i64 (b : Int)] 3)) := WP.of hb4 h.lt
  obtain ⟨r, hr⟩ : ∃ r, muxF F c a b = r := ⟨_, rfl⟩
  rw [hr] at hB ⊢
  unfold GV at hB
  simp only [List.length_cons, List.length_nil, Nat.zero_add, Nat.reduceAdd] at hB
  replace hB := Lib.hid hB
  replace hWP := Lib.hid hWP
  replace s3 := Lib.hid s3
  clear qa1 qb1 qc1 qc2 qa3 qc3 qa4 qb4 qc4 hb1 hb2 hb3 hb4 hs4 hR hr h s1 s2 hl ha hb hc
  go_enter Try.func18, Try.ntmps18
  go_wp2_with fail
  (with_reducible refine hB.out.mono ?_)
  rintro e w4 ⟨rfl, hg4, hk4⟩
  replace hg4 := Lib.hid hg4
  replace hk4 := Lib.hid (hWP.out.trans hk4)
  clear a0 b0 c0 al bl cl hB hWP
  go_wp2_with fail
  go_ret2
  exact ⟨rfl, hg4.out, hk4.out⟩
set_option maxRecDepth 100000 in
theorem build_bad {B p V c : Nat} {caps : Array Value} {F : List PN} {A : Option Addr} {l : List Int} (w : World) (h : GI w B p F)
    (hA : RL w A l) (hll : l.length ≤ 1000) (hlb : ∀ x ∈ l, x < 4611686018427387904) (hlf : l.any (foreign F.length) = true) :
    Calls Try.prog 31 #[pg p, .func (.func V) #[] caps, .slice A l.length c] w (RV w (.tuple #[.int .i64 0, .int .i64 3])) := by
  have hba := (Below.refl w.heap.size w).alloc (Nat.le_refl _) (.cells #[pg p] 26)
  have hb1 := BI.new w 26 (pg p)
  have hH := has_t l A c _ (h.over hba) (hA.over hba) hll hlb
  rw [hlf] at hH
  have c0 := hb1.c
  have cl := hb1.lt
  obtain ⟨n, hn⟩ : ∃ n, l.length = n := ⟨_, rfl⟩
  rw [hn] at hH ⊢
  unfold RV at hH
  replace hn := Lib.hid hn
  replace hH := Lib.hid hH
  replace hba := Lib.hid hba
  clear hA hll hlb hlf h hb1
  go_enter Try.func31, Try.ntmps31
  go_wp2_with fail
  (with_reducible refine hH.out.mono ?_)
  rintro e w2 ⟨rfl, hb2⟩
  have hbe2 : Below w.heap.size w w2 := below_call hb2 hba.out hba.out.size
  replace hbe2 := Lib.hid hbe2
  clear hb2 c0 cl
  go_wp2_with fail
  go_ret2
  exact ⟨rfl, hbe2.out⟩
set_option maxRecDepth 100000 in
theorem Or_bad {B p : Nat} {F : List PN} (a b : Int) (w : World) (h : GI w B p F) (ha : a < 4611686018427387904) (hb : b < 4611686018427387904) (hf : (foreign F.length a || foreign F.length b) = true) :
    Calls Try.prog 17 #[pg p, .int .i64 a, .int .i64 b] w (RV w (.tuple #[.int .i64 0, .int .i64 3])) := by
  have qa1 := BI.new w 3 (.int .i64 a)
  have hb1 := (Below.refl w.heap.size w).alloc (Nat.le_refl _) (.cells #[.int .i64 a] 3)
  have qb1 := BI.new (w.alloc (.cells #[.int .i64 a] 3)) 3 (.int .i64 b)
  have s1 : (w.alloc (.cells #[.int .i64 a] 3)).heap.size = w.heap.size + 1 := by simp
  rw [s1] at qb1
  have qa2 := qa1.over ((Below.refl _ _).alloc (Nat.le_refl _) (.cells #[.int .i64 b] 3))
  have hb2 := hb1.alloc hb1.size (.cells #[.int .i64 b] 3)
  obtain ⟨w2, hw2⟩ : ∃ W, (w.alloc (.cells #[.int .i64 a] 3)).alloc (.cells #[.int .i64 b] 3) = W := ⟨_, rfl⟩
  rw [hw2] at qa2 qb1 hb2
  have a0 := qa2.c
  have al := qa2.lt
  have b0 := qb1.c
  have bl := qb1.lt
  have hb3 := hb2.alloc hb2.size (.cells #[.int .i64 a, .int .i64 b] 3)
  have hB := build_bad (V := 32) (c := 2) (caps := #[pt w.heap.size, pt (w.heap.size + 1)]) _ (h.over hb3) (RL.two w2 a b) (by simp) (by simp; exact ⟨ha, hb⟩) (by simp only [List.any_cons, List.any_nil, Bool.or_false, hf])
  simp only [List.length_cons, List.length_nil, Nat.zero_add, Nat.reduceAdd] at hB
  unfold RV at hB
  replace hB := Lib.hid hB
  replace hb3 := Lib.hid hb3
  clear qa1 qb1 qa2 hb1 hb2 h s1 ha hb hf
  go_enter Try.func17, Try.ntmps17
  go_wp2_with fail
  (with_reducible refine hB.out.mono ?_)
  rintro e w4 ⟨rfl, hb4⟩
  have hb5 := below_call hb4 hb3.out hb3.out.size
  replace hb5 := Lib.hid hb5
  clear a0 b0 al bl hB hb4
  go_wp2_with fail
  go_ret2
  exact ⟨rfl, hb5.out⟩
set_option maxRecDepth 100000 in
theorem Mux_bad {B p : Nat} {F : List PN} (c a b : Int) (w : World) (h : GI w B p F) (hc : c < 4611686018427387904) (ha : a < 4611686018427387904) (hb : b < 4611686018427387904) (hf : (foreign F.length c || (foreign F.length a || foreign F.length b)) = true) :
    Calls Try.prog 18 #[pg p, .int .i64 c, .int .i64 a, .int .i64 b] w (RV w (.tuple #[.int .i64 0, .int .i64 3])) := by
  have qc1 := BI.new w 3 (.int .i64 c)
  have hb1 := (Below.refl w.heap.size w).alloc (Nat.le_refl _) (.cells #[.int .i64 c] 3)
  have qa1 := BI.new (w.alloc (.cells #[.int .i64 c] 3)) 3 (.int .i64 a)
  have s1 : (w.alloc (.cells #[.int .i64 c] 3)).heap.size = w.heap.size + 1 := by simp
  rw [s1] at qa1
  have qc2 := qc1.over ((Below.refl _ _).alloc (Nat.le_refl _) (.cells #[.int .i64 a] 3))
  have hb2 := hb1.alloc hb1.size (.cells #[.int .i64 a] 3)
  have qb1 := BI.new ((w.alloc (.cells #[.int .i64 c] 3)).alloc (.cells #[.int .i64 a] 3)) 3 (.int .i64 b)
  have s2 : ((w.alloc (.cells #[.int .i64 c] 3)).alloc (.cells #[.int .i64 a] 3)).heap.size = w.heap.size + 1 + 1 := by simp
  rw [s2] at qb1
  have qc3 := qc2.over ((Below.refl _ _).alloc (Nat.le_refl _) (.cells #[.int .i64 b] 3))
  have qa3 := qa1.over ((Below.refl _ _).alloc (Nat.le_refl _) (.cells #[.int .i64 b] 3))
  have hb3 := hb2.alloc hb2.size (.cells #[.int .i64 b] 3)
  obtain ⟨w3, hw3⟩ : ∃ W, ((w.alloc (.cells #[.int .i64 c] 3)).alloc (.cells #[.int .i64 a] 3)).alloc (.cells #[.int .i64 b] 3) = W := ⟨_, rfl⟩
  rw [hw3] at qc3 qa3 qb1 hb3
  have a0 := qa3.c
  have al := qa3.lt
  have b0 := qb1.c
  have bl := qb1.lt
  have c0 := qc3.c
  have cl := qc3.lt
  have hb4 := hb3.alloc hb3.size (.cells #[.int .i64 c, .int .i64 a, .int .i64 b] 3)
  have hB := build_bad (V := 34) (c := 3) (caps := #[pt (w.heap.size + 1), pt (w.heap.size + 1 + 1), pt w.heap.size]) _ (h.over hb4) (RL.three w3 c a b) (by simp) (by simp; exact ⟨hc, ha, hb⟩) (by simp only [List.any_cons, List.any_nil, Bool.or_false, hf])
  simp only [List.length_cons, List.length_nil, Nat.zero_add, Nat.reduceAdd] at hB
  unfold RV at hB
  replace hB := Lib.hid hB
  replace hb4 := Lib.hid hb4
  clear qa1 qb1 qc1 qc2 qa3 qc3 hb1 hb2 hb3 h s1 s2 ha hb hc hf
  go_enter Try.func18, Try.ntmps18
  go_wp2_with fail
  (with_reducible refine hB.out.mono ?_)
  rintro e w4 ⟨rfl, hb5⟩
  have hb6 := below_call hb5 hb4.out hb4.out.size
  replace hb6 := Lib.hid hb6
  clear a0 b0 c0 al bl cl hB hb5
  go_wp2_with fail
  go_ret2
  exact ⟨rfl, hb6.out⟩
end Go.Proofs.Ytinfkjflomdhbaa

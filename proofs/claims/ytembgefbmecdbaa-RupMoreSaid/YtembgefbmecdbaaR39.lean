/-
  newPropagator.
-/
import Derived.Test.YtembgefbmecdbaaR37
import Derived.Test.YtembgefbmecdbaaKp
import Derived.Laws.MakeOwn
import Derived.OwnWalk
namespace Go.Proofs.Ytembgefbmecdbaa
open Go.RowKit Go.Lib
theorem made_one (z : Value) (hz : z.cells = #[z]) (V : Nat) : madeCells z.cells ((2 * (V : Int) + 1).toNat * 1) = vcs V fun _ => z := by
  rw [hz]
  apply Array.ext_getElem?
  intro i
  by_cases h : i < 2 * V + 1
  · have e : i = (((i : Int) - V) + V).toNat := by omega
    have h1 : (vcs V fun _ => z)[i]? = some z := by rw [e, vcs_get (by omega) (by omega)]
    rw [h1]
    simp [madeCells, Nat.mod_one]
    exact ⟨i, by rw [Array.getElem?_eq_getElem (by simp; omega)]; simp⟩
  · rw [Array.getElem?_eq_none (by simp [madeCells]; omega), Array.getElem?_eq_none (by rw [vcs_size]; omega)]
theorem mk_val (W : World) (V : Nat) (h : V ≤ 60) : (Instr.makeSlice 56 (.int .i64 (2 * (V : Int) + 1)) (.int .i64 (2 * (V : Int) + 1))).run Try.prog W = .ok (sl W.heap.size (2 * V + 1)) (W.alloc (.cells (vcs V fun _ => i8 0) 71)) := by
  obtain ⟨i0, hi, hz0, hz1, hz2⟩ := info_parts (show (Try.prog.info? 71).map (fun i => (i.zero, i.size, i.bytes)) = some (some (.int .i8 0), 1, 1) by kernel_rfl)
  have h := run_make (P := Try.prog) W 56 71 i0 (.int .i8 0) Try.underlying56 hi hz0 .i64 .i64 (2 * (V : Int) + 1) (2 * (V : Int) + 1) (by omega) (by omega) (by rw [hz2]; omega) (by omega)
  rw [hz1, made_one _ rfl] at h
  rw [h]
  have e : (2 * (V : Int) + 1).toNat = 2 * V + 1 := by omega
  rw [e]
theorem mk_wat (W : World) (V : Nat) (h : V ≤ 60) : (Instr.makeSlice 57 (.int .i64 (2 * (V : Int) + 1)) (.int .i64 (2 * (V : Int) + 1))).run Try.prog W = .ok (sl W.heap.size (2 * V + 1)) (W.alloc (.cells (vcs V fun _ => .slice none 0 0) 22)) := by
  obtain ⟨i0, hi, hz0, hz1, hz2⟩ := info_parts (show (Try.prog.info? 22).map (fun i => (i.zero, i.size, i.bytes)) = some (some (.slice none 0 0), 1, 24) by kernel_rfl)
  have h := run_make (P := Try.prog) W 57 22 i0 (.slice none 0 0) Try.underlying57 hi hz0 .i64 .i64 (2 * (V : Int) + 1) (2 * (V : Int) + 1) (by omega) (by omega) (by rw [hz2]; omega) (by omega)
  rw [hz1, made_one _ rfl] at h
  rw [h]
  have e : (2 * (V : Int) + 1).toNat = 2 * V + 1 := by omega
  rw [e]
theorem PZ.init {B : Nat} {w : World} {p vb wb V : Nat} (hV : V ≤ 60) (hp : B ≤ p ∧ B ≤ vb ∧ B ≤ wb) (h1 : CB w p #[iz (V : Int), sl vb (2 * V + 1), sl wb (2 * V + 1), .slice none 0 0, iz 0, .bool false] 59) (h2 : CB w vb (vcs V fun _ => i8 0) 71) (h3 : CB w wb (vcs V fun _ => .slice none 0 0) 22) : PZ B w p V [] 0 false := by
  refine ⟨⟨.slice none 0 0, vb, wb⟩, ⟨V, fun _ => 0, fun _ => .slice none 0 0, [], 0, false⟩, { pB := hp.1, low := hp.2, hV := hV, blk := h1, vab := h2, wab := h3, tro := World.ownsRow_nil _ _ _ _ }, fun y => by simp, rfl, rfl, ?_⟩
  rw [if_neg (by decide)]
  refine ⟨rfl, fun _ => [], [], fun _ => ⟨0, 0, 0⟩, { li := fun x _ _ => World.ownsRow_nil _ _ _ _, ln := fun x y _ _ _ _ _ g hg => (by cases hg), cl := fun i c hi => (by simp at hi), ci := fun i j c d hi => (by simp at hi), ct := fun i c hi => (by simp at hi), wl := fun x _ _ => by simp }, by simp, ?_⟩
  refine { wf := ⟨List.nodup_nil, fun x hx => (by simp at hx), fun x hx => (by simp at hx), fun c hc => (by simp at hc)⟩, ww := ⟨fun x => List.nodup_nil, fun x i => by simp⟩, pw := fun i c hc => (by simp at hc), p0 := fun i c hc => (by simp at hc), st := ⟨fun c hc => (by simp at hc), fun d hd => (by simp at hd)⟩, up := fun y hy => (by simp at hy), sb := fun y hy => hy }
theorem three_new (w : World) (o1 o2 o3 : Obj) : (((w.alloc o1).alloc o2).alloc o3).drew.heap[w.heap.size]? = some o1 ∧ (((w.alloc o1).alloc o2).alloc o3).drew.heap[w.heap.size + 1]? = some o2 ∧ (((w.alloc o1).alloc o2).alloc o3).drew.heap[w.heap.size + 1 + 1]? = some o3 ∧ Below w.heap.size w (((w.alloc o1).alloc o2).alloc o3).drew := by
  have h1 := heap_alloc_new w o1
  have h2 := heap_alloc_new (w.alloc o1) o2
  have h3 := heap_alloc_new ((w.alloc o1).alloc o2) o3
  have s1 : (w.alloc o1).heap.size = w.heap.size + 1 := by simp
  have s2 : ((w.alloc o1).alloc o2).heap.size = w.heap.size + 1 + 1 := by simp
  have k1 : ∀ (W : World) (o : Obj) (b : Nat), b < W.heap.size → (W.alloc o).heap[b]? = W.heap[b]? := fun W o b hb => ((Below.refl W.heap.size W).alloc (Nat.le_refl _) o).block b hb
  rw [s1] at h2
  rw [s2] at h3
  refine ⟨?_, ?_, h3, (((Below.refl _ _).alloc (Nat.le_refl _) o1).alloc (by omega) o2).alloc (by omega) o3 |>.drew⟩
  · exact (k1 _ _ _ (by omega)).trans ((k1 _ _ _ (by omega)).trans h1)
  · exact (k1 _ _ _ (by omega)).trans h2
theorem init_AB (w : World) (V : Nat) (hV : V ≤ 60) (oA oB : Obj) (hA : (Obj.cells (vcs V fun _ => i8 0) 71) = oA) (hB : (Obj.cells (vcs V fun _ => .slice none 0 0) 22) = oB) : ∃ q, Value.pointer (some { block := w.heap.size + 1 + 1, off := 0 }) = pp q ∧ PZ w.heap.size (((w.alloc oA).alloc oB).alloc (Obj.cells #[Value.int IntKind.i64 ↑V, sl w.heap.size (2 * V + 1), sl (w.heap.size + 1) (2 * V + 1), Value.slice none 0 0, Value.int IntKind.i64 0, Value.bool false] 59)).drew q V [] 0 false ∧ Below w.heap.size w (((w.alloc oA).alloc oB).alloc (Obj.cells #[Value.int IntKind.i64 ↑V, sl w.heap.size (2 * V + 1), sl (w.heap.size + 1) (2 * V + 1), Value.slice none 0 0, Value.int IntKind.i64 0, Value.bool false] 59)).drew := by
  obtain ⟨h1, h2, h3, h4⟩ := three_new w oA oB (Obj.cells #[Value.int IntKind.i64 ↑V, sl w.heap.size (2 * V + 1), sl (w.heap.size + 1) (2 * V + 1), Value.slice none 0 0, Value.int IntKind.i64 0, Value.bool false] 59)
  subst hA hB
  exact ⟨_, rfl, PZ.init hV ⟨by omega, by omega, by omega⟩ h3 h1 h2, h4⟩
theorem init_BA (w : World) (V : Nat) (hV : V ≤ 60) (oA oB : Obj) (hA : (Obj.cells (vcs V fun _ => i8 0) 71) = oA) (hB : (Obj.cells (vcs V fun _ => .slice none 0 0) 22) = oB) : ∃ q, Value.pointer (some { block := w.heap.size + 1 + 1, off := 0 }) = pp q ∧ PZ w.heap.size (((w.alloc oB).alloc oA).alloc (Obj.cells #[Value.int IntKind.i64 ↑V, sl (w.heap.size + 1) (2 * V + 1), sl w.heap.size (2 * V + 1), Value.slice none 0 0, Value.int IntKind.i64 0, Value.bool false] 59)).drew q V [] 0 false ∧ Below w.heap.size w (((w.alloc oB).alloc oA).alloc (Obj.cells #[Value.int IntKind.i64 ↑V, sl (w.heap.size + 1) (2 * V + 1), sl w.heap.size (2 * V + 1), Value.slice none 0 0, Value.int IntKind.i64 0, Value.bool false] 59)).drew := by
  obtain ⟨h1, h2, h3, h4⟩ := three_new w oB oA (Obj.cells #[Value.int IntKind.i64 ↑V, sl (w.heap.size + 1) (2 * V + 1), sl w.heap.size (2 * V + 1), Value.slice none 0 0, Value.int IntKind.i64 0, Value.bool false] 59)
  subst hA hB
  exact ⟨_, rfl, PZ.init hV ⟨by omega, by omega, by omega⟩ h3 h2 h1, h4⟩
section
variable {base p V : Nat} {cs : List (List Int)} {vl ve : Value}
set_option maxRecDepth 100000 in
set_option maxHeartbeats 3200000 in
theorem newP_t (w : World) (h : CF base w p V cs vl ve) (hV : V ≤ 60) (hcl : ∀ c, c ∈ cs → ∀ y, y ∈ c → y ≠ 0 ∧ y ≤ V ∧ -y ≤ V) (hn : cs.length < 80000) :
    Calls Try.prog 13 #[pp p] w fun e w' => ∃ q fl, e = .returned (pp q) ∧ PZ w.heap.size w' q V cs cs.length fl ∧ Below w.heap.size w w' := by
  have hVr : ∀ W, Below w.heap.size w W → Calls Try.prog 16 #[pp p] W fun e w' => e = .returned (.int .i64 (V : Int)) ∧ W = w' := fun W hb => Vars_t (h.over hb)
  have hLn : ∀ W, Below w.heap.size w W → Calls Try.prog 26 #[pp p] W fun e w' => e = .returned (.int .i64 (cs.length : Int)) ∧ W = w' := fun W hb => Len_t (h.over hb)
  have hCl : ∀ W i, Below w.heap.size w W → (hi : i < cs.length) → Calls Try.prog 27 #[pp p, .int .i64 (i : Int)] W (OV W.heap.size W cs[i]) := fun W i hb hi => Clause_t (h.over hb) i hi
  have m1 := fun W => mk_val W V hV
  have m2 := fun W => mk_wat W V hV
  have hadd : ∀ q j fl w1 w2 v (hj : j < cs.length), PZ w.heap.size w1 q V (cs.take j) j fl → Below w.heap.size w w1 → Below w1.heap.size w1 w2 → w2.ownsRow w1.heap.size 3 1 v cs[j].length (iv cs[j]) → Calls Try.prog 23 #[pp q, v] w2 fun e w' => e = .returned (.tuple #[]) ∧ ∃ fl', PZ w.heap.size w' q V (cs.take (j + 1)) (j + 1) fl' ∧ Below w.heap.size w w' := by
    intro q j fl w1 w2 v hj hz hb1 hb2 hr
    refine (add_t w1 w2 hz (by omega) hb1.size hb2 v hr (hcl _ (List.getElem_mem hj)) (h.hc _ (List.getElem_mem hj))).mono ?_
    rintro e w' ⟨rfl, fl', q1, q2⟩
    refine ⟨rfl, fl', ?_, (hb1.trans (hb2.mono hb1.size)).trans q2⟩
    rw [List.take_succ_eq_append_getElem hj]
    exact q1
  replace hVr := Lib.hid hVr
  replace hLn := Lib.hid hLn
  replace hCl := Lib.hid hCl
  replace hadd := Lib.hid hadd
  clear h hcl
  go_enter Try.func13, Try.ntmps13
  go_wp2_with fail
  (with_reducible refine (hVr.out _ (Below.refl _ _)).mono ?_)
  rintro e w1 ⟨rfl, hw1⟩
  subst hw1
  go_wp2_with fail
  go_cut [4] from 6 (fun v wz => ∃ q, v = pp q ∧ PZ w.heap.size wz q V [] 0 false ∧ Below w.heap.size w wz)
  case first =>
    obtain ⟨oA, hoA⟩ : ∃ o, (Obj.cells (vcs V fun _ => i8 0) 71) = o := ⟨_, rfl⟩
    obtain ⟨oB, hoB⟩ : ∃ o, (Obj.cells (vcs V fun _ => .slice none 0 0) 22) = o := ⟨_, rfl⟩
    simp only [hoA] at m1
    simp only [hoB] at m2
    have bl : ∀ o, Below w.heap.size w (w.alloc o).drew := fun o => ((Below.refl _ _).alloc (Nat.le_refl _) o).drew
    have bl2 : ∀ o o', Below w.heap.size w ((w.alloc o).alloc o').drew := fun o o' => (((Below.refl _ _).alloc (Nat.le_refl _) o).alloc (by simp) o').drew
    have c0 := Lib.hid (hVr.out w.drew (Below.refl _ _).drew)
    have c1 := Lib.hid (hVr.out _ (bl oA))
    have c2 := Lib.hid (hVr.out _ (bl oB))
    have c3 := Lib.hid (hVr.out _ (bl2 oA oB))
    have c4 := Lib.hid (hVr.out _ (bl2 oB oA))
    clear bl bl2
    replace hoA := Lib.hid hoA
    replace hoB := Lib.hid hoB
    go_region_with (go_at_call 16; (first | (with_reducible refine c0.out.mono ?_) | (with_reducible refine c1.out.mono ?_) | (with_reducible refine c2.out.mono ?_) | (with_reducible refine c3.out.mono ?_) | (with_reducible refine c4.out.mono ?_)); rintro e w9 ⟨rfl, hw9⟩; subst hw9)
    all_goals (
      go_wp2_with fail
      go_meet
      case rel => first | exact init_AB _ V hV _ _ hoA.out hoB.out | exact init_BA _ V hV _ _ hoA.out hoB.out)
  case rest =>
    obtain ⟨q, rfl, hz, hbz⟩ := hcut
    have hlen := Lib.hid (hLn.out wc hbz)
    replace hz := Lib.hid hz
    have hbz' := Lib.hid hbz
    clear m1 m2 hVr hbz
    go_wp2_with fail
    (with_reducible refine hlen.out.mono ?_)
    rintro e w2 ⟨rfl, hw2⟩
    subst hw2
    obtain ⟨n, hnn⟩ : ∃ n, cs.length = n := ⟨_, rfl⟩
    simp only [hnn] at hadd hCl hn ⊢
    replace hnn := Lib.hid hnn
    go_wp2_with fail
    go_loopw [20] (fun iv wr => ∃ (j : Nat) (fl : Bool), j ≤ n ∧ iv = .int .i64 (j : Int) ∧ Hid (PZ w.heap.size wr q V (cs.take j) j fl) ∧ Hid (Below w.heap.size w wr)) (fun iv _ => n - (RowKit.intOf iv).toNat)
    case atStart => exact ⟨0, false, by omega, rfl, hz, hbz'⟩
    case round =>
      obtain ⟨j, fl, hj, rfl, hI, hb⟩ := hrel
      by_cases hlt : j < n
      · have hC := Lib.hid (hCl.out wr j hb.out hlt)
        have hA := Lib.hid (fun w2 v => hadd.out q j fl wr w2 v hlt hI.out hb.out)
        clear hI hb hz hbz'
        go_wp2_with fail
        (with_reducible refine hC.out.mono ?_)
        rintro e w3 ⟨v, rfl, ho, hb3⟩
        have hA2 := Lib.hid (hA.out w3 v hb3 ho)
        clear hA hC ho hb3
        go_wp2_with fail
        (with_reducible refine hA2.out.mono ?_)
        rintro e w4 ⟨rfl, fl', hz4, hb4⟩
        replace hz4 := Lib.hid hz4
        replace hb4 := Lib.hid hb4
        clear hA2
        go_wp2_with fail
        go_roundw
        case rel => exact ⟨j + 1, fl', by omega, by go_num, hz4, hb4⟩
        case measure => (change n - ((j : Int) + 1).toNat < n - ((j : Int)).toNat; omega)
      · obtain rfl : j = n := by omega
        have hfin : PZ w.heap.size wr q V cs j fl := by have := hI.out; rwa [List.take_of_length_le (by omega)] at this
        replace hfin := Lib.hid hfin
        clear hI hz hbz'
        go_wp2_with fail
        go_ret
        exact ⟨q, fl, rfl, by rw [hnn.out]; exact hfin.out, hb.out⟩
end
end Go.Proofs.Ytembgefbmecdbaa

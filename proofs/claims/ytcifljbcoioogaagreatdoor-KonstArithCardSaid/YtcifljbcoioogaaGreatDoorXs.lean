/-
  The statements' Env: at most twelve names with their numbers, as a map and as a list.
-/
import Derived.Test.YtcifljbcoioogaaGreatDoorXq
import Derived.Lib.OwnBridge
import Derived.Lib.AppendIntMem
import Derived.Deep.AppendLies
namespace Go.Proofs.YtcifljbcoioogaaGreatDoor
open Go.RowKit Go.Lib Go.Maps
abbrev NE := ByteArray × Int
def ncs (l : List NE) : List Value := l.flatMap fun x => [.string x.1, .int .i64 x.2]
theorem ncs_app (a b : List NE) : ncs (a ++ b) = ncs a ++ ncs b := by simp [ncs]
theorem ncs_get : ∀ (l : List NE) (j : Nat) (hj : j < l.length), (ncs l)[j * 2]? = some (.string l[j].1) ∧ (ncs l)[j * 2 + 1]? = some (.int .i64 l[j].2)
  | [], j, hj => by simp at hj
  | x :: l, 0, hj => ⟨rfl, rfl⟩
  | x :: l, j + 1, hj => by
    have e : ncs (x :: l) = .string x.1 :: .int .i64 x.2 :: ncs l := rfl
    have ih := ncs_get l j (by simpa using hj)
    rw [e, show (j + 1) * 2 = j * 2 + 2 by omega]
    simpa only [List.getElem?_cons_succ, List.getElem_cons_succ] using ih
/-- A slice of names with their numbers. -/
def NL (w : World) (A : Option Addr) (l : List NE) : Prop := 0 < l.length → ∃ b off : Nat, A = some ⟨b, off, none⟩ ∧ b < w.heap.size ∧ ∀ j (hj : j < l.length), w.cell? ⟨b, off + j * 2, none⟩ = some (.string l[j].1) ∧ w.cell? ⟨b, off + j * 2 + 1, none⟩ = some (.int .i64 l[j].2)
theorem NL.over {w w' : World} {A : Option Addr} {l : List NE} (h : NL w A l) (k : Below w.heap.size w w') : NL w' A l := fun h0 => by
  obtain ⟨b, off, e, hb, hc⟩ := h h0
  exact ⟨b, off, e, Nat.lt_of_lt_of_le hb k.size, fun j hj => ⟨(k.cell (p := ⟨b, off + j * 2, none⟩) hb).trans (hc j hj).1, (k.cell (p := ⟨b, off + j * 2 + 1, none⟩) hb).trans (hc j hj).2⟩⟩
theorem own_NL {w : World} {B n c : Nat} {A : Option Addr} {t : TypeId} {l : List NE} (h : w.ownsRow B t 2 (.slice A n c) l.length (ncs l)) : NL w A l ∧ n = l.length := by
  rcases h.2 with ⟨e, h0⟩ | ⟨g, cap, cur, e, hb, hg, h1, h2, h3, h4⟩
  · cases e
    exact ⟨fun hp => by omega, h0.symm⟩
  · cases e
    have hgl := (Array.getElem?_eq_some_iff.1 hg).1
    refine ⟨fun hp => ⟨g, 0, rfl, hgl, fun j hj => ?_⟩, rfl⟩
    have hcell : ∀ (o : Nat) (v : Value), (ncs l)[o]? = some v → w.cell? ⟨g, 0 + o, none⟩ = some v := fun o v hv => by
      rw [← h4] at hv
      rw [List.getElem?_take] at hv
      split at hv
      · simpa [World.cell?, hg] using hv
      · cases hv
    obtain ⟨t0, t1⟩ := ncs_get l j hj
    exact ⟨hcell _ _ t0, hcell _ _ t1⟩
def clampN (n : Int) : Int := max (-2147483648) (min n 2147483647)
theorem clamp_in (n : Int) : InR (clampN n) := by unfold InR clampN; omega
def clE (x : NE) : NE := (x.1, clampN x.2)
/-- At most twelve, their numbers of the range. -/
def envT (l : List NE) : List NE := (l.take 12).map clE
def keyL (l : List NE) : List (List UInt8 × Int) := l.map fun x => (x.1.data.toList, x.2)
theorem info_named : (Tryz.prog.info? 58).map (fun i => (i.zero, i.size, i.bytes)) = some (some (.agg #[.string ⟨#[]⟩, .int .i64 0]), 2, 24) := by kernel_rfl
/-- What Env leaves. -/
def EW (w : World) (L : List NE) (e : Ending) (w' : World) : Prop := ∃ mo v2, e = .returned (.tuple #[.agg #[.map mo], v2]) ∧ EnvIs w' (.map mo) (keyL L) ∧ w'.ownsRow w.heap.size 58 2 v2 L.length (ncs L) ∧ Below w.heap.size w w'
theorem take_cl (l : List NE) (k : Nat) (h : k < l.length) : (l.take (k + 1)).map clE = (l.take k).map clE ++ [clE l[k]] := by
  rw [List.take_succ_eq_append_getElem h, List.map_append]; rfl
theorem env_now {l : List NE} {k : Nat} (hk : k = l.length ∨ k = 12 ∧ 12 ≤ l.length) (h12 : k ≤ 12) : (l.take k).map clE = envT l := by
  unfold envT
  rcases hk with rfl | ⟨rfl, _⟩
  · rw [List.take_length, List.take_of_length_le h12]
  · rfl
theorem own_blk {w w' : World} {B n : Nat} {e : TypeId} {sz : Nat} {v : Value} {xs : List Value} (h : w.ownsRow B e sz v n xs) (hk : ∀ b, v.ownBlock = some b → w'.heap[b]? = w.heap[b]?) : w'.ownsRow B e sz v n xs := by
  refine ⟨h.1, ?_⟩
  rcases h.2 with hn | ⟨g, cap, cur, rfl, hb, hgg, rest⟩
  · exact .inl hn
  · exact .inr ⟨g, cap, cur, rfl, hb, (hk g rfl).trans hgg, rest⟩
theorem own_form {w : World} {B n : Nat} {e : TypeId} {sz : Nat} {v : Value} {xs : List Value} (h : w.ownsRow B e sz v n xs) : ∃ A c, v = .slice A n c := by
  rcases h.2 with ⟨rfl, hn⟩ | ⟨g, cap, cur, rfl, _⟩
  · exact ⟨none, 0, by rw [hn]⟩
  · exact ⟨_, _, rfl⟩
theorem Below.of_grown {w w' : World} (h : w.grownBy w' none) : Below w.heap.size w w' := ⟨h.os, h.tape, h.output, h.size, fun k hk => h.block k hk (by simp)⟩
set_option maxRecDepth 100000 in
set_option maxHeartbeats 6400000 in
theorem Env_t (A : Option Addr) (c : Nat) (l : List NE) (w : World) (hA : NL w A l) (hN : l.length ≤ 9223372036854775807) (hsz : ∀ x ∈ l, x.1.size ≤ maxLen) : Calls Tryz.prog 9 #[.slice A l.length c] w (EW w (envT l)) := by
  obtain ⟨N, hNe⟩ : ∃ N, l.length = N := ⟨_, rfl⟩
  rw [hNe] at hN ⊢
  obtain ⟨i0, hi, hz0, hz1, hz2⟩ := info_parts info_named
  unfold EW
  have hE0 : E1 ((w.alloc (.cells #[.map none] 39)).alloc (.cells #[.map none] 39)) w.heap.size 39 (.map none) := E1.alloc (heap_alloc_new w (.cells #[.map none] 39)) _
  have hE1 : E1 ((w.alloc (.cells #[.map none] 39)).alloc (.cells #[.map none] 39)) (w.heap.size + 1) 39 (.map none) := by
    have h := heap_alloc_new (w.alloc (.cells #[.map none] 39)) (.cells #[.map none] 39)
    rw [show (w.alloc (.cells #[.map none] 39)).heap.size = w.heap.size + 1 by simp] at h
    exact h
  have hb0 : Below w.heap.size w ((w.alloc (.cells #[.map none] 39)).alloc (.cells #[.map none] 39)) := by go_grown
  replace hA := Lib.hid hA
  replace hNe := Lib.hid hNe
  replace hsz := Lib.hid hsz
  replace hE0 := Lib.hid hE0
  replace hE1 := Lib.hid hE1
  replace hb0 := Lib.hid hb0
  go_enter Tryz.func9, Tryz.ntmps9
  go_wp2_with fail
  go_loopw [5, 6] (fun v iv wr => ∃ (k : Nat) (mo : Option Nat), k ≤ N ∧ k ≤ 12 ∧ iv = .int .i64 (k : Int) ∧ wr.ownsRow (w.heap.size + 1 + 1) 58 2 v k (ncs ((l.take k).map clE)) ∧ E1 wr w.heap.size 39 (.map none) ∧ E1 wr (w.heap.size + 1) 39 (.map mo) ∧ EnvIs wr (.map mo) (keyL ((l.take k).map clE)) ∧ Below w.heap.size w wr) (fun _ iv _ => 12 - (RowKit.intOf iv).toNat)
  case atStart => exact ⟨0, none, Nat.zero_le _, Nat.zero_le _, rfl, ⟨rfl, Or.inl ⟨rfl, rfl⟩⟩, hE0.out, hE1.out, .inl ⟨rfl, rfl⟩, hb0.out⟩
  case round =>
    obtain ⟨k, mo, hk, hk12, rfl, ho, hG, hV, hM, hbw⟩ := hrel
    obtain ⟨A1, c1, rfl⟩ := own_form ho
    by_cases hlt : k < N
    · by_cases h12 : k < 12
      · have hkl : k < l.length := by rw [hNe.out]; exact hlt
        obtain ⟨bA, oA, rfl, hbA, hc⟩ := hA.out (by omega)
        obtain ⟨d0, d1⟩ := hc k hkl
        have hbc := fun o => hbw.cell (p := ⟨bA, o, none⟩) hbA
        rw [← hbc] at d0 d1
        have hnx := take_cl l k hkl
        have hsk := hsz.out l[k] (List.getElem_mem hkl)
        obtain ⟨s, n, hsn⟩ : ∃ s n, l[k] = (s, n) := ⟨_, _, rfl⟩
        rw [hsn] at d0 d1 hnx hsk
        have hcl : clE (s, n) = (s, clampN n) := rfl
        rw [hcl] at hnx
        have hcn : max (-2147483648) (min n 2147483647) = clampN n := rfl
        have hci := clamp_in n
        obtain ⟨n', hn'⟩ : ∃ n', clampN n = n' := ⟨_, rfl⟩
        rw [hn'] at hnx hcn hci
        have z0 := hbw.size
        have hbA2 : bA < wr.heap.size := by omega
        have hw1 : IntKind.i64.wrap ((k : Int) + 1) = (k : Int) + 1 := IntWalk.i64_in _ (by omega)
        clear hc hbc hcl hn' hsn hkl
        replace hnx := Lib.hid hnx
        replace hci := Lib.hid hci
        replace hsk := Lib.hid hsk
        obtain ⟨X, hX⟩ : ∃ X, wr.heap.size = X := ⟨_, rfl⟩
        have hR := heap_alloc_new wr (.cells #[.string s, .int .i64 n'] 58)
        rw [hX] at hR hbA2
        have hg1 := World.grownBy_alloc wr (.cells #[.string s, .int .i64 n'] 58) none
        obtain ⟨W1, hW1⟩ : ∃ W1, wr.alloc (.cells #[.string s, .int .i64 n'] 58) = W1 := ⟨_, rfl⟩
        rw [hW1] at hR hg1
        replace ho := Lib.hid ho
        replace hG := Lib.hid hG
        replace hV := Lib.hid hV
        replace hM := Lib.hid hM
        replace hbw := Lib.hid hbw
        replace hR := Lib.hid hR
        replace hg1 := Lib.hid hg1
        go_wp2_with fail
        have hoX : W1.ownsRow (w.heap.size + 1 + 1) 58 2 (.slice A1 k c1) k (ncs ((l.take k).map clE)) := own_blk ho.out fun g hg => (Below.of_grown hg1.out).block g (ho.out.lt g hg).2
        have hbg := Below.of_grown hg1.out
        have hGX : E1 W1 w.heap.size 39 (.map none) := hG.out.over hbg
        have hVX : E1 W1 (w.heap.size + 1) 39 (.map mo) := hV.out.over hbg
        have hMX : EnvIs W1 (.map mo) (keyL ((l.take k).map clE)) := hM.out.over (Keep.of_below (F := fun _ => False) hbg) fun _ _ hf => hf
        have hbX : Below w.heap.size w W1 := below_call hbg hbw.out
        have hs0 : W1.drew.cell? ⟨w.heap.size + 1, 0, none⟩ = some (.map mo) ∧ W1.drew.cell? ⟨X, 0, none⟩ = some (.string s) ∧ W1.drew.cell? ⟨X, 1, none⟩ = some (.int .i64 n') := ⟨hVX.all.1, by show W1.cell? _ = _; rw [Lib.cell_of_heap hR.out]; rfl, by show W1.cell? _ = _; rw [Lib.cell_of_heap hR.out]; rfl⟩
        have hX1 : X < W1.heap.size := lt_of_get hR.out
        have hC := fun (W : World) (q : EnvIs W (.map mo) (keyL ((l.take k).map clE))) => With_t s n' (.map mo) _ W hsk.out hci.out (by simp [keyL]; omega) q
        obtain ⟨ks, hks⟩ : ∃ ks, keyL ((l.take k).map clE) = ks := ⟨_, rfl⟩
        rw [hks] at hC hMX
        unfold WI at hC
        have hkn : keyL ((l.take (k + 1)).map clE) = ks ++ [(s.data.toList, n')] := by rw [hnx.out]; unfold keyL at *; rw [List.map_append, hks]; rfl
        have hnn : ncs ((l.take (k + 1)).map clE) = ncs ((l.take k).map clE) ++ [.string s, .int .i64 n'] := by rw [hnx.out, ncs_app]; rfl
        replace hkn := Lib.hid hkn
        replace hnn := Lib.hid hnn
        obtain ⟨xs, hxs⟩ : ∃ xs, ncs ((l.take k).map clE) = xs := ⟨_, rfl⟩
        rw [hxs] at hoX hnn
        obtain ⟨hW1lt, hW1sz⟩ : w.heap.size + 1 + 1 ≤ W1.heap.size ∧ ∀ g, (Value.slice A1 k c1).ownBlock = some g → w.heap.size + 1 + 1 ≤ g ∧ g < X := ⟨hVX.all.2.2, fun g hg => by have := ho.out.lt g hg; rw [hX] at this; exact this⟩
        clear ho hG hV hM hbw hg1 hbg hks hxs d0 d1
        replace hoX := Lib.hid hoX
        replace hGX := Lib.hid hGX
        replace hVX := Lib.hid hVX
        replace hMX := Lib.hid hMX
        replace hbX := Lib.hid hbX
        replace hC := Lib.hid hC
        replace hW1sz := Lib.hid hW1sz
        refine region_anyT (n := 10) (S := (fun w' => w'.cell? ⟨w.heap.size + 1, 0, none⟩ = some (.map mo) ∧ w'.cell? ⟨X, 0, none⟩ = some (.string s) ∧ w'.cell? ⟨X, 1, none⟩ = some (.int .i64 n'))) (by kernel_rfl) ?_
        refine anyT_take (i := 0) (v := .agg #[.map mo]) rfl (by kernel_rfl) (by kernel_rfl) (fun _ _ _ h => h) (Or.inl ⟨by rfl, ?_⟩) hs0 ?_
        · intro w' hw'
          obtain ⟨q0, q1, q2⟩ := hw'
          go_simp
          try with_reducible rfl
        try simp only [Act.put, List.getElem_toArray, List.getElem_cons_zero, List.setIfInBounds_toArray, List.set_cons_zero, List.set_cons_succ]
        refine anyT_take (i := 1) (v := .pointer (some ⟨X, 0, none⟩)) rfl (by kernel_rfl) (by kernel_rfl) (fun _ _ _ h => h) (Or.inl ⟨by rfl, ?_⟩) hs0 ?_
        · intro w' hw'
          obtain ⟨q0, q1, q2⟩ := hw'
          go_simp
          try with_reducible rfl
        try simp only [Act.put, List.getElem_toArray, List.getElem_cons_zero, List.getElem_cons_succ, List.setIfInBounds_toArray, List.set_cons_zero, List.set_cons_succ]
        refine anyT_take (i := 2) (v := .string s) rfl (by kernel_rfl) (by kernel_rfl) (fun _ _ _ h => h) (Or.inl ⟨by rfl, ?_⟩) hs0 ?_
        · intro w' hw'
          obtain ⟨q0, q1, q2⟩ := hw'
          go_simp
          try with_reducible rfl
        try simp only [Act.put, List.getElem_toArray, List.getElem_cons_zero, List.getElem_cons_succ, List.setIfInBounds_toArray, List.set_cons_zero, List.set_cons_succ]
        refine anyT_take (i := 3) (v := .pointer (some ⟨X, 1, none⟩)) rfl (by kernel_rfl) (by kernel_rfl) (fun _ _ _ h => h) (Or.inl ⟨by rfl, ?_⟩) hs0 ?_
        · intro w' hw'
          obtain ⟨q0, q1, q2⟩ := hw'
          go_simp
          try with_reducible rfl
        try simp only [Act.put, List.getElem_toArray, List.getElem_cons_zero, List.getElem_cons_succ, List.setIfInBounds_toArray, List.set_cons_zero, List.set_cons_succ]
        refine anyT_take (i := 4) (v := .int .i64 n') rfl (by kernel_rfl) (by kernel_rfl) (fun _ _ _ h => h) (Or.inl ⟨by rfl, ?_⟩) hs0 ?_
        · intro w' hw'
          obtain ⟨q0, q1, q2⟩ := hw'
          go_simp
          try with_reducible rfl
        try simp only [Act.put, List.getElem_toArray, List.getElem_cons_zero, List.getElem_cons_succ, List.setIfInBounds_toArray, List.set_cons_zero, List.set_cons_succ]
        refine anyT_take (i := 6) (v := .slice A1 k c1) rfl (by kernel_rfl) (by kernel_rfl) (fun _ _ _ h => h) (Or.inl ⟨by rfl, ?_⟩) hs0 ?_
        · intro w' hw'
          obtain ⟨q0, q1, q2⟩ := hw'
          go_simp
          try with_reducible rfl
        try simp only [Act.put, List.getElem_toArray, List.getElem_cons_zero, List.getElem_cons_succ, List.setIfInBounds_toArray, List.set_cons_zero, List.set_cons_succ]
        refine anyT_take (i := 7) (v := .agg #[.string s, .int .i64 n']) rfl (by kernel_rfl) (by kernel_rfl) (fun _ _ _ h => h) (Or.inl ⟨by rfl, ?_⟩) hs0 ?_
        · intro w' hw'
          obtain ⟨q0, q1, q2⟩ := hw'
          go_simp
          try with_reducible rfl
        try simp only [Act.put, List.getElem_toArray, List.getElem_cons_zero, List.getElem_cons_succ, List.setIfInBounds_toArray, List.set_cons_zero, List.set_cons_succ]
        refine anyT_pair (i := 5) (j := 8) (by kernel_rfl) ?_ ?_
        ·
          refine wpOp_step rfl (fun K hK => ?_)
          replace hK := Lib.hid hK
          go_simp
          (with_reducible refine (hC.out _ hMX.out.drew).mono ?_)
          rintro e w2 ⟨m2, n2, rfl, hm2, hn2, hml, hb2⟩
          replace hb2 := undrew hb2
          have hml2 : W1.heap.size ≤ m2 := hml
          have hV2 : E1 w2 (w.heap.size + 1) 39 (.map mo) := hVX.out.over hb2
          have hG2 : E1 w2 w.heap.size 39 (.map none) := hGX.out.over hb2
          have hX2 : w2.heap[X]? = some (.cells #[.string s, .int .i64 n'] 58 (0, 0)) := (hb2.block X hX1).trans hR.out
          have ho2 := own_blk hoX.out fun g hg => hb2.block g (by have := (hW1sz.out g hg).2; have : X < W1.heap.size := hX1; show g < W1.heap.size; omega)
          have hbw2 : Below w.heap.size w w2 := below_call hb2 hbX.out
          refine hK.out _ _ ⟨fun _ => ⟨hV2.all.1, by rw [Lib.cell_of_heap hX2]; rfl, by rw [Lib.cell_of_heap hX2]; rfl⟩, ?_⟩
          clear hK K hml
          try simp only [Act.put, List.getElem_toArray, List.getElem_cons_zero, List.getElem_cons_succ, List.setIfInBounds_toArray, List.set_cons_zero, List.set_cons_succ]
          refine anyT_one (i := 8) (by kernel_rfl) ?_
          refine wpOp_step rfl (fun K hK => ?_)
          replace hK := Lib.hid hK
          have z2 : W1.heap.size ≤ w2.heap.size := hb2.size
          clear hb2
          have hnb := heap_alloc_new w2 (.cells #[.string s, .int .i64 n'] 58)
          obtain ⟨nb, hnbe⟩ : ∃ nb, w2.heap.size = nb := ⟨_, rfl⟩
          have hbe := (Below.refl w2.heap.size w2).alloc (Nat.le_refl _) (.cells #[.string s, .int .i64 n'] 58)
          rw [hnbe] at hnb
          obtain ⟨w3, hw3⟩ : ∃ w3, w2.alloc (.cells #[.string s, .int .i64 n'] 58) = w3 := ⟨_, rfl⟩
          rw [hw3] at hnb hbe
          have hV3 := hV2.over hbe
          have hG3 := hG2.over hbe
          have hX3 := (hbe.block X (lt_of_get hX2)).trans hX2
          have hm3 := hm2.alloc (.cells #[.string s, .int .i64 n'] 58)
          have ho3 := own_blk ho2 fun g hg => hbe.block g (ho2.lt g hg).2
          have hb3 := below_call hbe hbw2
          rw [hw3] at hm3
          have z3 : W1.heap.size ≤ w3.heap.size := Nat.le_trans z2 hbe.size
          clear hV2 hG2 hX2 ho2 hbw2 hm2
          replace ho3 := Lib.hid ho3
          replace hV3 := Lib.hid hV3
          replace hG3 := Lib.hid hG3
          replace hX3 := Lib.hid hX3
          replace hm3 := Lib.hid hm3
          replace hb3 := Lib.hid hb3
          replace hnb := Lib.hid hnb
          replace hbe := Lib.hid hbe
          go_simp
          refine hK.out _ _ ⟨fun _ => ⟨hV3.out.all.1, by rw [Lib.cell_of_heap hX3.out]; rfl, by rw [Lib.cell_of_heap hX3.out]; rfl⟩, ?_⟩
          clear hK K hbe
          replace ho3 := ho3.out
          replace hV3 := hV3.out
          replace hG3 := hG3.out
          replace hX3 := hX3.out
          replace hm3 := hm3.out
          replace hb3 := hb3.out
          replace hnb := hnb.out
          try simp only [Act.put, List.getElem_toArray, List.getElem_cons_zero, List.getElem_cons_succ, List.setIfInBounds_toArray, List.set_cons_zero, List.set_cons_succ]
          refine anyT_one (i := 9) (by kernel_rfl) ?_
          refine wpOp_step rfl (fun K hK => ?_)
          replace hK := Lib.hid hK
          obtain ⟨H3, hH3⟩ : ∃ H3, w3.heap.size = H3 := ⟨_, rfl⟩
          refine step_append_lies _ rfl (.tmp 33) (.tmp 35) 23 rfl (w.heap.size + 1 + 1) 58 i0 (.agg #[.string ⟨#[]⟩, .int .i64 0]) 2 24 Tryz.underlying23 hi hz0 hz1 hz2 rfl (by decide) _ k xs (by simp [Act.eval]) ho3 ⟨nb, 0, none⟩ 1 1 [.string s, .int .i64 n'] (by simp [Act.eval]) rfl (World.news_of_block hnb) (by simp [Value.oneCell']) (by decide) (by unfold maxLen; omega) (by omega) (by omega) H3 hH3 ?_
          intro g6 cap6 w6 ho6 hg6 hgb hlt6
          have hne : ∀ b, (w.heap.size + 1 + 1 ≤ b → X ≤ b) → some b ≠ (Value.slice A1 k c1).ownBlock := fun b hb e => by have := hW1sz.out b e.symm; omega
          have hV6 : E1 w6 (w.heap.size + 1) 39 (.map mo) := (hg6.block _ (lt_of_get hV3) (hne _ (by omega))).trans hV3
          have hG6 : E1 w6 w.heap.size 39 (.map none) := (hg6.block _ (lt_of_get hG3) (hne _ (by omega))).trans hG3
          have hX6 : w6.heap[X]? = some (.cells #[.string s, .int .i64 n'] 58 (0, 0)) := (hg6.block _ (lt_of_get hX3) (hne _ (fun _ => Nat.le_refl _))).trans hX3
          have hm6 : MapIs w6 m2 n2 (DM (ks ++ [(s.data.toList, n')])) := hm3.kept hg6 (hne _ (by omega))
          have hb6 : Below w.heap.size w w6 := hb3.trans ⟨hg6.os, hg6.tape, hg6.output, hg6.size, fun q hq => hg6.block q (by have := hb3.size; omega) (hne q (by omega))⟩
          have hgV : g6 ≠ w.heap.size + 1 := by
            rcases hgb with h | h
            · have := hW1sz.out g6 h; omega
            · omega
          refine hK.out _ _ ⟨fun _ => ⟨hV6.all.1, by rw [Lib.cell_of_heap hX6]; rfl, by rw [Lib.cell_of_heap hX6]; rfl⟩, ?_⟩
          clear hK K ho3 hnb hX3 hG3 hV3 hm3 hb3 hg6 hgb hne
          obtain ⟨v0, vf, vl⟩ := hV6.all
          replace ho6 := Lib.hid ho6
          replace hV6 := Lib.hid hV6
          replace hG6 := Lib.hid hG6
          replace hX6 := Lib.hid hX6
          replace hm6 := Lib.hid hm6
          replace hb6 := Lib.hid hb6
          try simp only [Act.put, List.getElem_toArray, List.getElem_cons_zero, List.getElem_cons_succ, List.setIfInBounds_toArray, List.set_cons_zero, List.set_cons_succ]
          refine anyT_one (i := 10) (by kernel_rfl) ?_
          refine wpOp_step rfl (fun K hK => ?_)
          replace hK := Lib.hid hK
          go_simp
          refine hK.out _ _ ⟨fun h => absurd h (by decide), ?_⟩
          clear hK K
          try simp only [Act.put, List.getElem_toArray, List.getElem_cons_zero, List.getElem_cons_succ, List.setIfInBounds_toArray, List.set_cons_zero, List.set_cons_succ]
          refine anyT_one (i := 11) (by kernel_rfl) ?_
          refine wpOp_step rfl (fun K hK => ?_)
          replace hK := Lib.hid hK
          go_simp
          refine hK.out _ _ ⟨fun h => absurd h (by decide), ?_⟩
          clear hK K
          try simp only [Act.put, List.getElem_toArray, List.getElem_cons_zero, List.getElem_cons_succ, List.setIfInBounds_toArray, List.set_cons_zero, List.set_cons_succ]
          refine anyT_done (by kernel_rfl) ?_ _
          go_wp2_with fail
          go_roundw
          case rel =>
            refine ⟨k + 1, some m2, by omega, by omega, by go_num, ?_, ?_, ?_, ?_, ?_⟩
            · rw [hnn.out]
              exact own_blk ho6.out fun g hg => by cases hg; exact Below.heap_setCell _ _ _ _ hgV
            · exact (Below.heap_setCell _ _ _ _ (by simp)).trans hG6.out
            · exact heap_set _ _ 0 _ _ _ hV6.out
            · rw [hkn.out]
              refine .inr ⟨m2, n2, rfl, hm6.out.kept (grownBy_set _ _ _) (by simp; omega), by simpa using hn2⟩
            · have := hb6.out; go_grown
          case measure => (simp [RowKit.intOf]; omega)
        ·
          refine wpOp_step rfl (fun K hK => ?_)
          replace hK := Lib.hid hK
          have hnb1 := heap_alloc_new W1 (.cells #[.string s, .int .i64 n'] 58)
          obtain ⟨nb, hnbe⟩ : ∃ nb, W1.heap.size = nb := ⟨_, rfl⟩
          have hbe := (Below.refl W1.heap.size W1).alloc (Nat.le_refl _) (.cells #[.string s, .int .i64 n'] 58)
          rw [hnbe] at hnb1
          obtain ⟨wz, hwz⟩ : ∃ wz, W1.alloc (.cells #[.string s, .int .i64 n'] 58) = wz := ⟨_, rfl⟩
          rw [hwz] at hnb1 hbe
          have hVz := hVX.out.over hbe
          have hGz := hGX.out.over hbe
          have hXz := (hbe.block X hX1).trans hR.out
          have hMz := hMX.out.over (Keep.of_below (F := fun _ => False) hbe) fun _ _ hf => hf
          have hoz := own_blk hoX.out fun g hg => hbe.block g (by have := (hW1sz.out g hg).2; have : X < W1.heap.size := hX1; show g < W1.heap.size; omega)
          have hbz := below_call hbe hbX.out
          have zz : W1.heap.size ≤ wz.heap.size := hbe.size
          clear hbe
          replace hVz := Lib.hid hVz
          replace hGz := Lib.hid hGz
          replace hXz := Lib.hid hXz
          replace hMz := Lib.hid hMz
          replace hoz := Lib.hid hoz
          replace hbz := Lib.hid hbz
          replace hnb1 := Lib.hid hnb1
          go_simp
          refine hK.out _ _ ⟨fun _ => ⟨hVz.out.all.1, by (try show wz.cell? _ = _); rw [Lib.cell_of_heap hXz.out]; rfl, by (try show wz.cell? _ = _); rw [Lib.cell_of_heap hXz.out]; rfl⟩, ?_⟩
          clear hK K
          try simp only [Act.put, List.getElem_toArray, List.getElem_cons_zero, List.getElem_cons_succ, List.setIfInBounds_toArray, List.set_cons_zero, List.set_cons_succ]
          refine anyT_one (i := 5) (by kernel_rfl) ?_
          refine wpOp_step rfl (fun K hK => ?_)
          replace hK := Lib.hid hK
          go_simp
          (with_reducible refine (hC.out _ hMz.out.drew).mono ?_)
          rintro e w3 ⟨m2, n2, rfl, hm3, hn2, hml, hb2⟩
          replace hb2 := undrew hb2
          have hml2 : W1.heap.size ≤ m2 := Nat.le_trans zz hml
          have hV3 : E1 w3 (w.heap.size + 1) 39 (.map mo) := hVz.out.over hb2
          have hG3 : E1 w3 w.heap.size 39 (.map none) := hGz.out.over hb2
          have hX3 : w3.heap[X]? = some (.cells #[.string s, .int .i64 n'] 58 (0, 0)) := (hb2.block X (lt_of_get hXz.out)).trans hXz.out
          have ho3 := own_blk hoz.out fun g hg => hb2.block g (hoz.out.lt g hg).2
          have hb3 : Below w.heap.size w w3 := below_call hb2 hbz.out
          have hnb := (hb2.block nb (lt_of_get hnb1.out)).trans hnb1.out
          have z3 : W1.heap.size ≤ w3.heap.size := Nat.le_trans zz hb2.size
          refine hK.out _ _ ⟨fun _ => ⟨hV3.all.1, by rw [Lib.cell_of_heap hX3]; rfl, by rw [Lib.cell_of_heap hX3]; rfl⟩, ?_⟩
          clear hK K hml hb2 hVz hGz hXz hMz hoz hbz hnb1
          try simp only [Act.put, List.getElem_toArray, List.getElem_cons_zero, List.getElem_cons_succ, List.setIfInBounds_toArray, List.set_cons_zero, List.set_cons_succ]
          refine anyT_one (i := 9) (by kernel_rfl) ?_
          refine wpOp_step rfl (fun K hK => ?_)
          replace hK := Lib.hid hK
          obtain ⟨H3, hH3⟩ : ∃ H3, w3.heap.size = H3 := ⟨_, rfl⟩
          refine step_append_lies _ rfl (.tmp 33) (.tmp 35) 23 rfl (w.heap.size + 1 + 1) 58 i0 (.agg #[.string ⟨#[]⟩, .int .i64 0]) 2 24 Tryz.underlying23 hi hz0 hz1 hz2 rfl (by decide) _ k xs (by simp [Act.eval]) ho3 ⟨nb, 0, none⟩ 1 1 [.string s, .int .i64 n'] (by simp [Act.eval]) rfl (World.news_of_block hnb) (by simp [Value.oneCell']) (by decide) (by unfold maxLen; omega) (by omega) (by omega) H3 hH3 ?_
          intro g6 cap6 w6 ho6 hg6 hgb hlt6
          have hne : ∀ b, (w.heap.size + 1 + 1 ≤ b → X ≤ b) → some b ≠ (Value.slice A1 k c1).ownBlock := fun b hb e => by have := hW1sz.out b e.symm; omega
          have hV6 : E1 w6 (w.heap.size + 1) 39 (.map mo) := (hg6.block _ (lt_of_get hV3) (hne _ (by omega))).trans hV3
          have hG6 : E1 w6 w.heap.size 39 (.map none) := (hg6.block _ (lt_of_get hG3) (hne _ (by omega))).trans hG3
          have hX6 : w6.heap[X]? = some (.cells #[.string s, .int .i64 n'] 58 (0, 0)) := (hg6.block _ (lt_of_get hX3) (hne _ (fun _ => Nat.le_refl _))).trans hX3
          have hm6 : MapIs w6 m2 n2 (DM (ks ++ [(s.data.toList, n')])) := hm3.kept hg6 (hne _ (by omega))
          have hb6 : Below w.heap.size w w6 := hb3.trans ⟨hg6.os, hg6.tape, hg6.output, hg6.size, fun q hq => hg6.block q (by have := hb3.size; omega) (hne q (by omega))⟩
          have hgV : g6 ≠ w.heap.size + 1 := by
            rcases hgb with h | h
            · have := hW1sz.out g6 h; omega
            · omega
          refine hK.out _ _ ⟨fun _ => ⟨hV6.all.1, by rw [Lib.cell_of_heap hX6]; rfl, by rw [Lib.cell_of_heap hX6]; rfl⟩, ?_⟩
          clear hK K ho3 hnb hX3 hG3 hV3 hm3 hb3 hg6 hgb hne
          obtain ⟨v0, vf, vl⟩ := hV6.all
          replace ho6 := Lib.hid ho6
          replace hV6 := Lib.hid hV6
          replace hG6 := Lib.hid hG6
          replace hX6 := Lib.hid hX6
          replace hm6 := Lib.hid hm6
          replace hb6 := Lib.hid hb6
          try simp only [Act.put, List.getElem_toArray, List.getElem_cons_zero, List.getElem_cons_succ, List.setIfInBounds_toArray, List.set_cons_zero, List.set_cons_succ]
          refine anyT_one (i := 10) (by kernel_rfl) ?_
          refine wpOp_step rfl (fun K hK => ?_)
          replace hK := Lib.hid hK
          go_simp
          refine hK.out _ _ ⟨fun h => absurd h (by decide), ?_⟩
          clear hK K
          try simp only [Act.put, List.getElem_toArray, List.getElem_cons_zero, List.getElem_cons_succ, List.setIfInBounds_toArray, List.set_cons_zero, List.set_cons_succ]
          refine anyT_one (i := 11) (by kernel_rfl) ?_
          refine wpOp_step rfl (fun K hK => ?_)
          replace hK := Lib.hid hK
          go_simp
          refine hK.out _ _ ⟨fun h => absurd h (by decide), ?_⟩
          clear hK K
          try simp only [Act.put, List.getElem_toArray, List.getElem_cons_zero, List.getElem_cons_succ, List.setIfInBounds_toArray, List.set_cons_zero, List.set_cons_succ]
          refine anyT_done (by kernel_rfl) ?_ _
          go_wp2_with fail
          go_roundw
          case rel =>
            refine ⟨k + 1, some m2, by omega, by omega, by go_num, ?_, ?_, ?_, ?_, ?_⟩
            · rw [hnn.out]
              exact own_blk ho6.out fun g hg => by cases hg; exact Below.heap_setCell _ _ _ _ hgV
            · exact (Below.heap_setCell _ _ _ _ (by simp)).trans hG6.out
            · exact heap_set _ _ 0 _ _ _ hV6.out
            · rw [hkn.out]
              refine .inr ⟨m2, n2, rfl, hm6.out.kept (grownBy_set _ _ _) (by simp; omega), by simpa using hn2⟩
            · have := hb6.out; go_grown
          case measure => (simp [RowKit.intOf]; omega)
      ·
        obtain hkN : k = l.length ∨ k = 12 ∧ 12 ≤ l.length := by have := hNe.out; omega
        have hnow := env_now hkN hk12
        rw [hnow] at ho hM
        obtain ⟨v0, vf, vl⟩ := hV.all
        obtain ⟨g0, gf, gl⟩ := hG.all
        have hbz := hbw.size
        have hlen : (envT l).length = k := by rw [← hnow, List.length_map, List.length_take]; have := hNe.out; omega
        replace ho := Lib.hid ho
        replace hM := Lib.hid hM
        replace hG := Lib.hid hG
        replace hV := Lib.hid hV
        replace hbw := Lib.hid hbw
        clear hnow hkN
        go_wp2_with fail
        refine bodyPost_ret (v := .tuple #[.agg #[.map mo], .slice A1 k c1]) (by simp [results, Tryz.results9, go_sem, g0]) rfl ⟨mo, .slice A1 k c1, rfl, ?_, ?_, ?_⟩
        · have hk2 : Keep (fun x => x = w.heap.size) wr (wr.setCell ⟨w.heap.size, 0, none⟩ (.map mo)) := (Keep.refl (fun x => x = w.heap.size) wr).set ⟨w.heap.size, 0, none⟩ rfl _
          refine hM.out.over hk2 fun m hm e => ?_
          subst e
          rcases hM.out with ⟨h1, _⟩ | ⟨m3, n3, h1, h2, _⟩
          · rw [hm] at h1; cases h1
          · rw [hm] at h1
            injection h1 with h1
            injection h1 with h1
            subst h1
            obtain ⟨es, cl, h3, _⟩ := h2
            have h4 := hG.out
            unfold E1 at h4
            rw [h4] at h3
            cases h3
        · have h1 := own_blk (w' := wr.setCell ⟨w.heap.size, 0, none⟩ (.map mo)) ho.out fun g hg => (Below.heap_setCell wr ⟨w.heap.size, 0, none⟩ (.map mo) g (by have := (ho.out.lt g hg).1; simp; omega))
          rw [hlen]
          obtain ⟨q1, q2⟩ := h1
          refine ⟨q1, ?_⟩
          rcases q2 with q2 | ⟨g, cap, cur, a, b, c⟩
          · exact .inl q2
          · exact .inr ⟨g, cap, cur, a, by omega, c⟩
        · have := hbw.out; go_grown
    ·
      obtain hkN : k = l.length ∨ k = 12 ∧ 12 ≤ l.length := by have := hNe.out; omega
      have hnow := env_now hkN hk12
      rw [hnow] at ho hM
      obtain ⟨v0, vf, vl⟩ := hV.all
      obtain ⟨g0, gf, gl⟩ := hG.all
      have hbz := hbw.size
      have hlen : (envT l).length = k := by rw [← hnow, List.length_map, List.length_take]; have := hNe.out; omega
      replace ho := Lib.hid ho
      replace hM := Lib.hid hM
      replace hG := Lib.hid hG
      replace hV := Lib.hid hV
      replace hbw := Lib.hid hbw
      clear hnow hkN
      go_wp2_with fail
      refine bodyPost_ret (v := .tuple #[.agg #[.map mo], .slice A1 k c1]) (by simp [results, Tryz.results9, go_sem, g0]) rfl ⟨mo, .slice A1 k c1, rfl, ?_, ?_, ?_⟩
      · have hk2 : Keep (fun x => x = w.heap.size) wr (wr.setCell ⟨w.heap.size, 0, none⟩ (.map mo)) := (Keep.refl (fun x => x = w.heap.size) wr).set ⟨w.heap.size, 0, none⟩ rfl _
        refine hM.out.over hk2 fun m hm e => ?_
        subst e
        rcases hM.out with ⟨h1, _⟩ | ⟨m3, n3, h1, h2, _⟩
        · rw [hm] at h1; cases h1
        · rw [hm] at h1
          injection h1 with h1
          injection h1 with h1
          subst h1
          obtain ⟨es, cl, h3, _⟩ := h2
          have h4 := hG.out
          unfold E1 at h4
          rw [h4] at h3
          cases h3
      · have h1 := own_blk (w' := wr.setCell ⟨w.heap.size, 0, none⟩ (.map mo)) ho.out fun g hg => (Below.heap_setCell wr ⟨w.heap.size, 0, none⟩ (.map mo) g (by have := (ho.out.lt g hg).1; simp; omega))
        rw [hlen]
        obtain ⟨q1, q2⟩ := h1
        refine ⟨q1, ?_⟩
        rcases q2 with q2 | ⟨g, cap, cur, a, b, c⟩
        · exact .inl q2
        · exact .inr ⟨g, cap, cur, a, by omega, c⟩
      · have := hbw.out; go_grown
end Go.Proofs.YtcifljbcoioogaaGreatDoor

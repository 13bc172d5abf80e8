/-
  The walk of lit's hexadecimal: a loop over the library's Backward over words.
  The walk of lit's hexadecimal.
-/
import Derived.Test.YtalmhopbnaeamaaGreatDoorGa
import Derived.Test.YtalmhopbnaeamaaGreatDoorCa
import Derived.Test.YtalmhopbnaeamaaGreatDoorYe
namespace Go.Proofs.YtalmhopbnaeamaaGreatDoor
open Go Go.RowKit Go.Shelf
attribute [local go_sem] Oper.semAt_some
set_option maxRecDepth 100000 in
set_option maxHeartbeats 1000000 in
theorem backu_in (len cap : Nat) (A : Option Addr) (w : World) :
    Calls Tryz.prog 61 #[.slice A len cap] w fun e w' => e = .returned (.func (.func 84) #[] #[.pointer (some ⟨w.heap.size, 0, none⟩)]) ∧ w' = w.alloc (.cells #[.slice A len cap] 65) := by
  go_enter Tryz.func61, Tryz.ntmps61
  go_wp2
  go_ret
  exact ⟨rfl, rfl⟩
set_option maxRecDepth 100000 in
set_option maxHeartbeats 2000000 in
theorem backu1_in (F : Fence) (n : Nat) (hf : F.fn 84) (hro : F.round = none) (hn : 1 ≤ n) (l Bs n₀ len cap : Nat) (A : Option Addr) (g : Nat → Nat) (J Jx : List Nat → World → Prop)
    (hY : ∀ pre (x : Nat) W, J pre W → pre.length < len → YieldAt F (n - 1) Tryz.prog l #[.int .i64 (x : Int), .int .u64 ((g x : Nat) : Int)] W fun e W' =>
      (e = .returned (.bool true) ∧ J (pre ++ [x]) W' ∧ KB n₀ Bs W W') ∨ (e = .returned (.bool false) ∧ Jx (pre ++ [x]) W'))
    (w W : World) (hw : w.heap.size = n₀) (hwW : Below n₀ w W) (hBs : W.cell? ⟨Bs, 0, none⟩ = some (.slice A len cap)) (hR : RW w A len g) (hlen : len ≤ 1000) (h0 : J [] W) :
    CallsIn F n Tryz.prog 84 #[.func (.yield l) #[] #[], .pointer (some ⟨Bs, 0, none⟩)] W fun e W' => (∃ v, e = .returned v) ∧
      ((∃ ys, ys = dn len len ∧ J ys W') ∨ (∃ pre, (∃ k, k ≤ len ∧ pre = dn len k) ∧ Jx pre W')) := by
  have hR' := Lib.hid hR
  replace hY := Lib.hid hY
  clear hR
  refine callsIn_of_wp Tryz.func84 rfl hf ?_ hro
  simp only [Tryz.ntmps84, List.size_toArray, List.length_cons, List.length_nil, Nat.reduceAdd, Nat.reduceSub, Array.replicate_succ, Array.replicate_zero, List.push_toArray, List.append_toArray, List.nil_append, List.cons_append]
  gi_wp2
  gi_loopw [3] (fun i wr => ∃ k : Nat, k ≤ len ∧ ((k = len ∧ i = .int .i64 (-1)) ∨ ∃ s : Nat, len = k + (s + 1) ∧ i = .int .i64 (s : Int)) ∧ J (dn len k) wr ∧ KB n₀ Bs W wr)
    (fun i _ => (RowKit.intOf i + 1).toNat)
  case atStart =>
    refine ⟨0, Nat.zero_le _, ?_, h0, Below.refl _ _, rfl⟩
    rcases Nat.eq_zero_or_pos len with h | h
    · exact .inl ⟨h.symm, by rw [h]; rfl⟩
    · exact .inr ⟨len - 1, by omega, by congr 1; omega⟩
  case round =>
    obtain ⟨k, hk, hc, hJs, hkb⟩ := hrel
    have hbs : wr.cell? ⟨Bs, 0, none⟩ = some (.slice A len cap) := (cell_block hkb.2).trans hBs
    rcases hc with ⟨rfl, rfl⟩ | ⟨s, hs, rfl⟩
    · gi_wp2
      go_end0
      exact ⟨⟨_, rfl⟩, .inl ⟨_, rfl, hJs⟩⟩
    · obtain ⟨b, off, rfl, hb, hcs⟩ := hR'.out (by omega)
      have h1 := hcs s (by omega)
      have hB : Below n₀ w wr := hwW.trans hkb.1
      have c1 := (hB.cell (p := ⟨b, off + s, none⟩) (by show b < n₀; omega)).trans h1
      have hsx : len - 1 - k = s := by omega
      have hsl : (s : Int) < (len : Int) := by omega
      have hnx : ((k + 1 = len ∧ Value.int .i64 ((s : Int) - 1) = Value.int .i64 (-1)) ∨ ∃ s' : Nat, len = k + 1 + (s' + 1) ∧ Value.int .i64 ((s : Int) - 1) = Value.int .i64 (s' : Int)) := by
        rcases Nat.eq_zero_or_pos s with h | h
        · exact .inl ⟨by omega, by rw [h]; rfl⟩
        · exact .inr ⟨s - 1, by omega, by congr 1; omega⟩
      replace hnx := Lib.hid hnx
      obtain ⟨fn, tmps, assign, body, hy, hRd⟩ := hY.out _ s wr hJs (by rw [dn_len]; omega)
      have hd : dn len k ++ [s] = dn len (k + 1) := by rw [dn_succ, hsx]
      rw [hd] at hRd
      try dsimp only at hy
      have hk1 : k + 1 ≤ len := by omega
      clear h1 hcs hb hs hsx hd
      gi_wp2
      refine hRd.mono ?_
      rintro e W3 (⟨rfl, hJ3, hk3⟩ | ⟨rfl, hJx3⟩)
      · gi_wp2
        go_roundw
        case rel => exact ⟨k + 1, hk1, hnx.out, hJ3, hkb.t hk3⟩
        case measure => simp [RowKit.intOf] <;> omega
      · gi_wp2
        refine bodyPost_ret (results_none rfl _ _ _) rfl ?_
        exact ⟨⟨_, rfl⟩, .inr ⟨_, ⟨k + 1, hk1, rfl⟩, hJx3⟩⟩
theorem backu_stops (F : Fence) (n : Nat) (hf : F.fn 84) (hro : F.round = none) (hn : 1 ≤ n) (Bs n₀ len cap : Nat) (A : Option Addr) (g : Nat → Nat) (hlen : len ≤ 1000) (w u : World) (hw : w.heap.size = n₀) (hwu : Below n₀ w u) (hBs : Bs < u.heap.size)
    (hc : u.cell? ⟨Bs, 0, none⟩ = some (.slice A len cap)) (hR : RW w A len g) :
    SeqStopsK F n Tryz.prog 84 #[.pointer (some ⟨Bs, 0, none⟩)] (fun x : Nat => #[Value.int .i64 (x : Int), Value.int .u64 ((g x : Nat) : Int)]) (KB n₀ Bs) (fun ys => ys = dn len len) (fun pre => ∃ k, k ≤ len ∧ pre = dn len k) len u := fun l J Jx W hW _ _ hY h0 =>
  backu1_in F n hf hro hn l Bs n₀ len cap A g J Jx hY w W hw (hwu.trans (hW.mono (hw ▸ hwu.size))) ((hW.cell (p := ⟨Bs, 0, none⟩) hBs).trans hc) hR hlen h0
end Go.Proofs.YtalmhopbnaeamaaGreatDoor
namespace Go.Proofs.YtalmhopbnaeamaaGreatDoor
open Go Go.RowKit Go.Shelf Go.Lib
attribute [local go_sem] Oper.semAt_some
/-- The words of these numbers, sixteen digits each. -/
def hexP (g : Nat → Nat) : List Nat → List UInt8
  | [] => []
  | j :: r => hxf 16 (g j) ++ hexP g r
theorem hexP_snoc (g : Nat → Nat) : ∀ (l : List Nat) (x : Nat), hexP g (l ++ [x]) = hexP g l ++ hxf 16 (g x)
  | [], x => by simp [hexP]
  | j :: r, x => by simp [hexP, hexP_snoc g r x]
theorem hexP_len (g : Nat → Nat) : ∀ l : List Nat, (hexP g l).length = 16 * l.length
  | [] => rfl
  | j :: r => by simp [hexP, hexP_len g r, hxf_len]; omega
/-- What hexadecimal returns. -/
def hexR (g : Nat → Nat) (m : Nat) : List UInt8 := if trimLeftB (hexP g (dn m m)) 48 = [] then [48] else trimLeftB (hexP g (dn m m)) 48
/-- A variable that holds a text. -/
def TV (w : World) (b : Nat) (s : ByteArray) : Prop := w.rowIs b 9 1 (fun _ => .string s)
theorem TV.over {w w' : World} {b : Nat} {s : ByteArray} (h : TV w b s) (hb : Below w.heap.size w w') : TV w' b s := World.rowIs.of_block h (hb.block b (World.rowIs.lt h))
theorem TV.drew {w : World} {b : Nat} {s : ByteArray} (h : TV w b s) : TV w.drew b s := h
theorem TV.set {w : World} {b : Nat} {s : ByteArray} (h : TV w b s) (s' : ByteArray) : TV (w.setCell ⟨b, 0, none⟩ (.string s')) b s' := World.rowIs.congr (World.rowIs.set h 0 _) fun j hj => by
  obtain rfl : j = 0 := by omega
  rw [if_pos rfl]
/-- Between two rounds. -/
def HI (u : World) (g : Nat → Nat) (pre : List Nat) (w : World) : Prop := TV w u.heap.size ⟨(hexP g pre).toArray⟩ ∧ u.heap.size + 1 < w.heap.size ∧ Below u.heap.size u w
def HX (_ : Code) (_ : List Nat) (_ : World) : Prop := False
theorem HI_own (u : World) (g : Nat → Nat) (B : Nat) (hB : u.heap.size ≤ B) : OwnFrom B (HI u g) := fun pre A C row h hg hr => by
  obtain ⟨h1, h2, h3⟩ := h
  exact ⟨rowIs_own h1 hg (fun r e => (hr r e).2), Nat.lt_of_lt_of_le h2 hg.size, (ownFrom_below (Nat.le_refl _) hB) pre A C row h3 hg hr⟩
theorem HX_own (c : Code) (B : Nat) : OwnFrom B (HX c) := fun _ _ _ _ h _ _ => h.elim
def HAx (F : Nat → Act) (x : Nat) (a : Act) (_ : World) : Prop := a = F x
theorem HAx_own (F : Nat → Act) (x : Nat) (a : Act) (B : Nat) : OwnFrom B (fun (_ : Unit) w => HAx F x a w) := fun _ _ _ _ h _ _ => h
theorem ba_app (a b : List UInt8) : (⟨a.toArray⟩ : ByteArray) ++ ⟨b.toArray⟩ = ⟨(a ++ b).toArray⟩ := by
  apply ByteArray.ext
  simp
theorem KB_b' {n₀ Bs : Nat} {w : World} (hn : n₀ ≤ w.heap.size) (hB : Bs < w.heap.size) (W : World) (l : Nat) (o o' : Obj) (hl : w.heap.size ≤ l) (h : W.heap[l]? = some o) (hc : o.isCells = false) (hw : o.isWalk = false) : KB n₀ Bs W (W.putObj l o') :=
  ⟨belowK_b hn W l o o' hl h hc hw, World.putObj_heap_other (fun e => by omega)⟩
theorem KB_below' {n₀ Bs : Nat} {w w' : World} (h : Below w.heap.size w w') (hn : n₀ ≤ w.heap.size) (hB : Bs < w.heap.size) : KB n₀ Bs w w' := ⟨h.mono hn, h.block Bs hB⟩
theorem KB_set' {n₀ Bs : Nat} {w : World} {p : Addr} (v : Value) (hn : n₀ ≤ p.block) (hB : Bs ≠ p.block) : KB n₀ Bs w (w.setCell p v) := ⟨(Below.refl _ _).setCell hn _, Go.Deep.blk_setCell_other _ _ _ _ hB⟩
set_option maxRecDepth 1000000 in
set_option maxHeartbeats 8000000 in
theorem hexadecimal_t (m cap : Nat) (A : Option Addr) (g : Nat → Nat) (u : World) (hg : ∀ j, g j < 2 ^ 64) (hm : m ≤ 2) (hR : RW u A m g) (hT : LT u) :
    Calls Tryz.prog 37 #[.slice A m cap] u (RV u (.string ⟨(hexR g m).toArray⟩)) := by
  refine (callsIn_wide (n := 5)).1 ?_
  have h1 : 1 ≤ 5 := by decide
  replace hg := Lib.hid hg
  replace hR := Lib.hid hR
  replace hT := Lib.hid hT
  refine callsIn_of_wp_marks Tryz.func37 rfl trivial ?_ rfl
  simp only [Tryz.ntmps37, List.size_toArray, List.length_cons, List.length_nil, Nat.reduceAdd, Nat.reduceSub, Array.replicate_succ, Array.replicate_zero, List.push_toArray, List.append_toArray, List.nil_append, List.cons_append]
  gi_wp2_with (refine ⟨trivial, ?_⟩; gi_at_call 61; refine (callsIn_wide.2 (backu_in _ _ _ _)).mono ?_; rintro e w' ⟨rfl, rfl⟩)
  have hB0 : Below u.heap.size u ((u.alloc (.cells #[.string ⟨#[]⟩] 9)).alloc (.cells #[.slice A m cap] 65)) := by go_grown
  have T0 : TV ((u.alloc (.cells #[.string ⟨#[]⟩] 9)).alloc (.cells #[.slice A m cap] 65)) u.heap.size ⟨#[]⟩ := by
    have h := World.rowIs_alloc u #[.string ⟨#[]⟩] 9 (fun _ => .string ⟨#[]⟩) (fun i hi => by
      obtain rfl : i = 0 := by simp at hi; omega
      rfl)
    exact World.rowIs.alloc h _
  have hc0 : ((u.alloc (.cells #[.string ⟨#[]⟩] 9)).alloc (.cells #[.slice A m cap] 65)).cell? ⟨u.heap.size + 1, 0, none⟩ = some (.slice A m cap) := by
    have h := cell_of_row _ _ 0 _ _ _ (heap_alloc_new (u.alloc (.cells #[.string ⟨#[]⟩] 9)) (.cells #[.slice A m cap] 65))
    rw [World.size_alloc] at h
    rw [h]; rfl
  have hsz : ((u.alloc (.cells #[.string ⟨#[]⟩] 9)).alloc (.cells #[.slice A m cap] 65)).heap.size = u.heap.size + 2 := by simp
  obtain ⟨W0, hW0⟩ : ∃ W0, ((u.alloc (.cells #[.string ⟨#[]⟩] 9)).alloc (.cells #[.slice A m cap] 65)) = W0 := ⟨_, rfl⟩
  rw [hW0] at hB0 T0 hc0 hsz ⊢
  clear hW0
  refine wpIn_rangeFunc_ownH (F := Fence.wide) rfl h1 (gf := 84) (lb := #[.pointer (some ⟨u.heap.size + 1, 0, none⟩)]) rfl trivial (enters_of Tryz.func84 (by kernel_rfl) rfl)
    (backu_stops Fence.wide (5 - 1) trivial rfl (by decide) (u.heap.size + 1) u.heap.size m cap A g (by omega) u W0 rfl hB0 (by omega) hc0 hR.out) KB.t (KB_b' (by omega) (by omega)) (Below.refl _ _) (fun _ => rfl)
    (HI u g) HX (HI_own u g _ (by omega)) (fun c => HX_own c _) ⟨T0, by omega, hB0⟩
    (HAx (fun x => { tmps := #[.slice A m cap, undef, .string ⟨#[]⟩, .pointer (some ⟨u.heap.size, 0, none⟩), undef, .int .u64 ((g x : Nat) : Int), undef, .slice A m cap, .func (.func 84) #[] #[.pointer (some ⟨u.heap.size + 1, 0, none⟩)], .int .i64 (x : Int), .int .u64 ((g x : Nat) : Int), undef, undef, undef, undef, undef, undef, undef, undef, undef, undef, undef, undef, undef, undef, undef], defers := [] })) (fun x a' => HAx_own _ x a' _) ?assign ?body ?done ?stop
  case assign =>
    rintro l pre x W K hI hK
    gi_wp2
    exact hK _ _ ((KeepsOthers.refl _).from _) ⟨Below.refl _ _, rfl⟩ hI rfl
  case body =>
    rintro l pre x a' w hl _ ⟨T, s1, hB⟩ rfl hlt
    have hF := Lib.hid (fun w (hb : Below u.heap.size u w) => FormatUint_t (g x) (hg.out x) w (hT.out.on hb))
    have hx16 := hxs_pad 16 (g x) (by decide) (hg.out x)
    obtain ⟨D, hD⟩ : ∃ D : ByteArray, (⟨(hxs (g x)).toArray⟩ : ByteArray) = D := ⟨_, rfl⟩
    obtain ⟨z, hz⟩ : ∃ z, 16 - (hxs (g x)).length = z := ⟨_, rfl⟩
    have hDs : D.size = (hxs (g x)).length := by rw [← hD]; rfl
    have hz16 : z ≤ 16 := by omega
    have hR2 := Lib.hid (fun w => Repeat_t z hz16 w)
    obtain ⟨Z, hZ⟩ : ∃ Z : ByteArray, (⟨(List.replicate z (48 : UInt8)).toArray⟩ : ByteArray) = Z := ⟨_, rfl⟩
    have hZs : Z.size = z := by rw [← hZ]; show (List.replicate z (48 : UInt8)).length = z; simp
    obtain ⟨P0, hP0⟩ : ∃ P0 : ByteArray, (⟨(hexP g pre).toArray⟩ : ByteArray) = P0 := ⟨_, rfl⟩
    have hPs : P0.size ≤ 32 := by
      rw [← hP0]
      show (hexP g pre).length ≤ 32
      rw [hexP_len]; omega
    have hfin : (P0 ++ (Z ++ D)) = ⟨(hexP g (pre ++ [x])).toArray⟩ := by
      rw [← hP0, ← hZ, ← hD, ba_app, ba_app, hexP_snoc, hx16.2, hz]
    rw [hD] at hF
    rw [hZ] at hR2
    rw [hP0] at T
    have hDb : D.size ≤ 16 := by omega
    have esub : IntKind.i64.wrap (16 - (D.size : Int)) = (z : Int) := by rw [IntWalk.i64_in _ (by omega)]; omega
    replace hfin := Lib.hid hfin
    clear hD hZ hP0 hx16 hz hDs
    have q1 : z + D.size ≤ 9223372036854775807 := by omega
    have q2 : P0.size + (z + D.size) ≤ 9223372036854775807 := by omega
    have lu : u.heap.size < w.heap.size := by omega
    clear hlt
    gi_wp2_with (refine ⟨trivial, ?_⟩; gi_at_call 62; refine (CallsIn.inRound l (callsIn_wide.2 (hF.out _ hB))).mono ?_; rintro e w1 ⟨rfl, hb1⟩)
    have T1 := T.over hb1
    have hbw1 : Below w.heap.size w w1 := hb1
    have z1 := hbw1.size
    clear hb1 hF
    have S1 : w1.drew.cell? ⟨u.heap.size, 0, none⟩ = some (.string P0) := World.rowIs.cell T1.drew (i := 0) (by decide)
    refine regionIn_anyT (k := 8) (S := fun w' => w'.cell? ⟨u.heap.size, 0, none⟩ = some (.string P0)) (by kernel_rfl) (by rintro ⟨_, _, h⟩; exact h) (by kernel_rfl) ?_
    refine anyT_take (i := 0) (v := .string P0) rfl (by kernel_rfl) (by kernel_rfl) (fun _ _ _ h => h) (Or.inl ⟨by rfl, ?_⟩) S1 ?_
    · intro w' hw'
      go_simp
      try with_reducible rfl
    try simp only [Act.put, List.getElem_toArray, List.getElem_cons_zero, List.getElem_cons_succ, List.setIfInBounds_toArray, List.set_cons_zero, List.set_cons_succ]
    refine anyT_take (i := 1) (v := .string D) rfl (by kernel_rfl) (by kernel_rfl) (fun _ _ _ h => h) (Or.inl ⟨by rfl, ?_⟩) S1 ?_
    · intro w' hw'
      go_simp
      try with_reducible rfl
    try simp only [Act.put, List.getElem_toArray, List.getElem_cons_zero, List.getElem_cons_succ, List.setIfInBounds_toArray, List.set_cons_zero, List.set_cons_succ]
    refine anyT_take (i := 2) (v := .int .i64 (D.size : Int)) rfl (by kernel_rfl) (by kernel_rfl) (fun _ _ _ h => h) (Or.inl ⟨by rfl, ?_⟩) S1 ?_
    · intro w' hw'
      go_simp
      try with_reducible rfl
    try simp only [Act.put, List.getElem_toArray, List.getElem_cons_zero, List.getElem_cons_succ, List.setIfInBounds_toArray, List.set_cons_zero, List.set_cons_succ]
    refine anyT_take (i := 3) (v := .int .i64 (z : Int)) rfl (by kernel_rfl) (by kernel_rfl) (fun _ _ _ h => h) (Or.inl ⟨by rfl, ?_⟩) S1 ?_
    · intro w' hw'
      go_simp
      try with_reducible rfl
    try simp only [Act.put, List.getElem_toArray, List.getElem_cons_zero, List.getElem_cons_succ, List.setIfInBounds_toArray, List.set_cons_zero, List.set_cons_succ]
    refine anyT_take (i := 5) (v := .string D) rfl (by kernel_rfl) (by kernel_rfl) (fun _ _ _ h => h) (Or.inl ⟨by rfl, ?_⟩) S1 ?_
    · intro w' hw'
      go_simp
      try with_reducible rfl
    try simp only [Act.put, List.getElem_toArray, List.getElem_cons_zero, List.getElem_cons_succ, List.setIfInBounds_toArray, List.set_cons_zero, List.set_cons_succ]
    refine anyT_one (i := 4) (by kernel_rfl) ?_
    refine wpOp_step rfl (fun K hK => ?_)
    replace hK := Lib.hid hK
    go_simp
    (with_reducible refine (hR2.out _).mono ?_)
    rintro e w2 ⟨rfl, hb2⟩
    have T2 := T1.drew.over hb2
    have hbw2 : Below w.heap.size w w2 := below_call hb2 (by exact hbw1.drew)
    have z2 := hbw2.size
    clear hb2
    have S2 : w2.cell? ⟨u.heap.size, 0, none⟩ = some (.string P0) := World.rowIs.cell T2 (i := 0) (by decide)
    refine hK.out _ _ ⟨fun _ => S2, ?_⟩
    clear hK K
    try simp only [Act.put, List.getElem_toArray, List.getElem_cons_zero, List.getElem_cons_succ, List.setIfInBounds_toArray, List.set_cons_zero, List.set_cons_succ]
    refine anyT_take (i := 6) (v := .string (Z ++ D)) rfl (by kernel_rfl) (by kernel_rfl) (fun _ _ _ h => h) (Or.inl ⟨by rfl, ?_⟩) S2 ?_
    · intro w' hw'
      go_simp
      try with_reducible rfl
    try simp only [Act.put, List.getElem_toArray, List.getElem_cons_zero, List.getElem_cons_succ, List.setIfInBounds_toArray, List.set_cons_zero, List.set_cons_succ]
    refine anyT_take (i := 7) (v := .string (P0 ++ (Z ++ D))) rfl (by kernel_rfl) (by kernel_rfl) (fun _ _ _ h => h) (Or.inl ⟨by rfl, ?_⟩) S2 ?_
    · intro w' hw'
      go_simp
      try with_reducible rfl
    try simp only [Act.put, List.getElem_toArray, List.getElem_cons_zero, List.getElem_cons_succ, List.setIfInBounds_toArray, List.set_cons_zero, List.set_cons_succ]
    have f2 := World.rowIs.frozen T2
    have l2 : u.heap.size < w2.heap.size := World.rowIs.lt T2
    refine anyT_one (i := 8) (by kernel_rfl) ?_
    refine wpOp_step rfl (fun K hK => ?_)
    replace hK := Lib.hid hK
    go_simp
    refine hK.out _ _ ⟨fun h => absurd h (by decide), ?_⟩
    clear hK K
    try simp only [Act.put]
    refine anyT_done (by kernel_rfl) ?_ _
    gi_wp2_with fail
    have hns : u.heap.size + 1 ≠ u.heap.size := by omega
    exact ⟨((keeps_below hbw2).trans (KeepsOthers.setCell _ _ _)).from _, (KB_below' hbw2 (by omega) (by omega)).t (KB_set' _ (Nat.le_refl _) hns), by
      refine ⟨?_, ?_, ?_⟩
      · have := TV.set T2 (P0 ++ (Z ++ D))
        rwa [hfin.out] at this ⊢
      · simp; omega
      · exact (hB.trans (hbw2.mono hB.size)).setCell (p := ⟨u.heap.size, 0, none⟩) (Nat.le_refl _) _⟩
  case done =>
    rintro Dk ys W hD rfl ⟨T, s1, hB⟩ hK
    obtain ⟨P0, hP0⟩ : ∃ P0 : List UInt8, hexP g (dn m m) = P0 := ⟨_, rfl⟩
    obtain ⟨Q0, hQ0⟩ : ∃ Q0 : List UInt8, trimLeftB P0 48 = Q0 := ⟨_, rfl⟩
    have hr : hexR g m = if Q0 = [] then [48] else Q0 := by unfold hexR; rw [hP0, hQ0]
    rw [hP0] at T
    have hTr := fun w => Tryz.strings_TrimLeft_one ⟨P0.toArray⟩ 48 (by decide) w
    rw [show (⟨P0.toArray⟩ : ByteArray).data.toList = P0 from rfl, hQ0] at hTr
    obtain ⟨r, hrr⟩ : ∃ r : ByteArray, (⟨Q0.toArray⟩ : ByteArray) = r := ⟨_, rfl⟩
    have hrs : r.size = Q0.length := by rw [← hrr]; rfl
    obtain ⟨s, hss⟩ : ∃ s : ByteArray, (⟨P0.toArray⟩ : ByteArray) = s := ⟨_, rfl⟩
    rw [hrr, hss] at hTr
    rw [hss] at T
    replace hTr := Lib.hid hTr
    clear hP0 hQ0 hss
    have va : W.cell? ⟨u.heap.size, 0, none⟩ = some (.string s) := World.rowIs.cell T (i := 0) (by decide)
    have vf := World.rowIs.frozen T
    have Bf : Below u.heap.size u (W.setCell ⟨u.heap.size, 0, none⟩ (.string r)) := hB.setCell (p := ⟨u.heap.size, 0, none⟩) (Nat.le_refl _) _
    have Kf : (W.setCell ⟨u.heap.size, 0, none⟩ (.string r)).heap[Dk]? = some (.deferred (some [])) := (KeepsOthers.setCell _ _ _).same Dk _ hK rfl
    replace Bf := Lib.hid Bf
    replace Kf := Lib.hid Kf
    by_cases hq : Q0 = []
    · rw [if_pos hq] at hr
      obtain ⟨m1, m2⟩ := emp r (by rw [hrs, hq]; rfl)
      replace hr := Lib.hid hr
      clear hq hrr hrs
      gi_wp2_with (refine ⟨trivial, ?_⟩; gi_at_call 64; refine (callsIn_wide.2 (hTr.out _)).mono ?_; rintro e w1 ⟨rfl, rfl⟩)
      refine ⟨by simp, .inl ⟨_, _, rfl, run_takeDeferred Kf.out, ?_⟩⟩
      refine ⟨.string ⟨#[48]⟩, by simp [results, Tryz.results37, go_sem], by rw [hr.out], Bf.out.trans (belowK_b (w := u) (Nat.le_refl _) _ Dk _ _ (by omega) Kf.out rfl rfl)⟩
    · rw [if_neg hq] at hr
      obtain ⟨m1, m2⟩ := nemp r (by rw [hrs]; exact List.length_pos_iff.2 hq)
      rw [← hr] at hrr
      replace hrr := Lib.hid hrr
      clear hq hr hrs
      gi_wp2_with (refine ⟨trivial, ?_⟩; gi_at_call 64; refine (callsIn_wide.2 (hTr.out _)).mono ?_; rintro e w1 ⟨rfl, rfl⟩)
      refine ⟨by simp, .inl ⟨_, _, rfl, run_takeDeferred Kf.out, ?_⟩⟩
      refine ⟨.string r, by simp [results, Tryz.results37, go_sem], by rw [hrr.out], Bf.out.trans (belowK_b (w := u) (Nat.le_refl _) _ Dk _ _ (by omega) Kf.out rfl rfl)⟩
  case stop =>
    rintro Dk c pre W hD _ h
    exact h.elim
end Go.Proofs.YtalmhopbnaeamaaGreatDoor

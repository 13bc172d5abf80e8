/-
  What Eval says of a number's expression; Value for every number; the walk of konst's fixed fact.
  Two operands in a new slice; the walk of konst's fixed fact.
-/
import Derived.Test.YtcifljbcoioogaaGreatDoorXp
namespace Go.Proofs.YtcifljbcoioogaaGreatDoor
open Go.RowKit Go.Lib Go.Maps
theorem mtl : (⟨#[45]⟩ : ByteArray).toList = [45] := by rw [Go.Lib.toList_data]
theorem dec_len (k : Nat) : ∀ u, u < 10 ^ (k + 1) → (decDigits u).length ≤ k + 1 := by
  induction k with
  | zero => intro u hu; rw [decDigits_one (by simpa using hu)]; simp
  | succ k ih =>
    intro u hu
    by_cases h : u < 10
    · rw [decDigits_one h]; simp
    · rw [dec_big h]
      have := ih (u / 10) (by rw [Nat.pow_succ] at hu; omega)
      simp; omega
theorem int_of (n : Nat) (h : n < 2147483648) : inV 32 n true = ((n : Int), 0) := by
  unfold inV
  rw [if_neg (by decide)]
  have hb : n.testBit (32 - 1) = false := by
    rw [Nat.testBit_eq_decide_div_mod_eq]
    simp
    omega
  simp only [hb]
  simp
  omega
theorem lit_dec (f l c : Int) (k : Nat) (h : k < 2147483648) : litR ⟨1, f, l, c, decB k⟩ = okR (k : Int) := by
  unfold litR decB
  rw [pa_dec k h]
  simp only [int_of k h]
  rfl
theorem chk_in {h : XH} {n : Int} (hn : InR n) : chk h (okR n) = okR n := by
  unfold chk okR InR at *
  rw [if_neg (by simp), if_neg (by show ¬ (n < _ ∨ _ < n); omega)]
theorem pa_least : paV leastB = ⟨32, 2147483648, true, false, 0⟩ := by kernel_rfl
theorem inv_least : inV 32 2147483648 true = (-2147483648, 0) := by decide +kernel
theorem ev_val (env : ByteArray → Option Int) (n : Int) (hn : InR n) : ev env (XVal n) = okR n := by
  unfold XVal
  have hn2 := hn
  unfold InR at hn2
  by_cases h1 : n = -2147483648
  · rw [if_pos h1]
    show chk _ (rawZ env _) = _
    have e : rawZ env ⟨1, 0, 0, 0, leastB⟩ = okR n := by
      unfold rawZ litR
      rw [if_pos rfl, pa_least]
      simp only [inv_least]
      rw [h1]
      rfl
    rw [e, chk_in hn]
  · rw [if_neg h1]
    by_cases h2 : n < 0
    · rw [if_pos h2]
      show chk _ (rawU _ (chk _ (rawZ env _))) = _
      have e : rawZ env ⟨1, 0, 0, 0, decB (-n).toNat⟩ = okR (-n) := by
        unfold rawZ
        rw [if_pos rfl, lit_dec 0 0 0 _ (by omega), Int.toNat_of_nonneg (by omega)]
      rw [e, chk_in (by unfold InR; omega)]
      have e2 : rawU ⟨3, 0, 0, 0, ⟨#[45]⟩⟩ (okR (-n)) = okR n := by
        unfold rawU
        rw [if_pos rfl, mtl, if_pos (by decide), if_neg (by simp [okR])]
        show okR (- -n) = _
        rw [Int.neg_neg]
      rw [e2, chk_in hn]
    · rw [if_neg h2]
      show chk _ (rawZ env _) = _
      have e : rawZ env ⟨1, 0, 0, 0, decB n.toNat⟩ = okR n := by
        unfold rawZ
        rw [if_pos rfl, lit_dec 0 0 0 _ (by omega), Int.toNat_of_nonneg (by omega)]
      rw [e, chk_in hn]
theorem dec_size (k : Nat) (h : k < 2147483648) : (decB k).size ≤ 64 := by
  have : (decDigits k).length ≤ 10 := dec_len 9 k (by omega)
  show (decDigits k).toArray.size ≤ 64
  simp
  omega
theorem wx_val (n : Int) (hn : InR n) : WX (XVal n) := by
  unfold InR at hn
  unfold XVal
  split
  · exact ⟨Or.inl rfl, by show leastB.size ≤ 64; decide⟩
  · split
    · exact ⟨Or.inl ⟨rfl, by show (⟨#[45]⟩ : ByteArray).toList ∈ un9; rw [mtl]; decide⟩, Or.inl rfl, dec_size _ (by omega)⟩
    · exact ⟨Or.inl rfl, dec_size _ (by omega)⟩
theorem Value_t (v k : Int) (hv : min (max v (-2147483648)) 2147483647 = k) (w : World) (hT : LT w) : Calls Tryz.prog 13 #[.int .i64 v] w (VX w (XVal k)) := by
  by_cases h1 : k = -2147483648
  · subst h1
    exact (Value_least v hv w).mono fun e w' ⟨h, hb⟩ => ⟨none, 0, h, trivial, hb⟩
  · by_cases h2 : k < 0
    · obtain ⟨m, rfl⟩ : ∃ m : Nat, k = -(m : Int) := ⟨(-k).toNat, by omega⟩
      have e : XVal (-(m : Int)) = .u ⟨3, 0, 0, 0, ⟨#[45]⟩⟩ (.z ⟨1, 0, 0, 0, decB m⟩) := by
        unfold XVal
        rw [if_neg h1, if_pos h2, Int.neg_neg, Int.toNat_natCast]
      rw [e]
      exact (Value_neg v m (by omega) hv (by omega) w hT).mono fun e w' ⟨b, h, hb, hx, hw⟩ => ⟨some ⟨b, 0, none⟩, 1, h, ⟨b, 0, rfl, hb, none, 0, hx, trivial⟩, hw⟩
    · obtain ⟨m, rfl⟩ : ∃ m : Nat, k = (m : Int) := ⟨k.toNat, by omega⟩
      rw [xval_pos]
      exact (Value_pos v m hv w hT).mono fun e w' ⟨h, hb⟩ => ⟨none, 0, h, trivial, hb⟩
end Go.Proofs.YtcifljbcoioogaaGreatDoor
namespace Go.Proofs.YtcifljbcoioogaaGreatDoor
open Go.RowKit Go.Lib Go.Maps
/-- A slice of two expressions. -/
abbrev R12 (h1 h2 : XH) (A1 : Option Addr) (n1 c1 : Nat) (A2 : Option Addr) (n2 c2 : Nat) (T : TypeId) : Obj := .cells #[.int .i64 h1.k, .int .i64 h1.f, .int .i64 h1.l, .int .i64 h1.c, .string h1.s, .slice A1 n1 c1, .int .i64 h2.k, .int .i64 h2.f, .int .i64 h2.l, .int .i64 h2.c, .string h2.s, .slice A2 n2 c2] T
theorem pair_cells {w : World} {g : Nat} {h1 h2 : XH} {A1 : Option Addr} {n1 c1 : Nat} {A2 : Option Addr} {n2 c2 : Nat} {T : TypeId} (h : w.heap[g]? = some (R12 h1 h2 A1 n1 c1 A2 n2 c2 T)) : XC w g 0 h1 A1 n1 c1 ∧ XC w g (0 + 6) h2 A2 n2 c2 := by
  unfold XC
  refine ⟨⟨?_, ?_, ?_, ?_, ?_, ?_⟩, ?_, ?_, ?_, ?_, ?_, ?_⟩ <;> rw [Lib.cell_of_heap h] <;> rfl
theorem pair_ar {w : World} {g B : Nat} {h : XH} {a1 a2 : XT} {A1 A2 : Option Addr} {c1 c2 : Nat} {T : TypeId} (hg : w.heap[g]? = some (R12 a1.h a2.h A1 a1.args.length c1 A2 a2.args.length c2 T)) (hB : g < B) (x1 : XAr w B a1 A1) (x2 : XAr w B a2 A2) : XAr w B (.b h a1 a2) (some ⟨g, 0, none⟩) :=
  have hc := pair_cells hg
  ⟨g, 0, rfl, hB, ⟨A1, c1, hc.1, x1⟩, A2, c2, hc.2, x2⟩
theorem undrew {B : Nat} {w w' : World} (h : Below B w.drew w') : Below B w w' := ⟨h.os, h.tape, h.output, h.size, h.block⟩
theorem below_al {w w' : World} {o : Obj} (h : Below (w.alloc o).heap.size (w.alloc o) w') : Below w.heap.size w w' := ((Below.refl w.heap.size w).alloc (Nat.le_refl _) o).trans (h.mono (by simp))
theorem undrew_al {w w' : World} {o : Obj} (h : Below (w.alloc o).drew.heap.size (w.alloc o).drew w') : Below w.heap.size w w' := below_al (undrew h)
/-- A variable of three numbers. -/
def E3 (w : World) (g : Nat) (T : TypeId) (a b c : Int) : Prop := w.heap[g]? = some (.cells #[.int .i64 a, .int .i64 b, .int .i64 c] T (0, 0))
theorem E3.new (w : World) (T : TypeId) (a b c : Int) : E3 (w.alloc (.cells #[.int .i64 a, .int .i64 b, .int .i64 c] T)) w.heap.size T a b c := heap_alloc_new w _
theorem E3.over {w w' : World} {g : Nat} {T : TypeId} {a b c : Int} (h : E3 w g T a b c) (k : Below w.heap.size w w') : E3 w' g T a b c := (k.block g (lt_of_get h)).trans h
theorem E3.all {w : World} {g : Nat} {T : TypeId} {a b c : Int} (h : E3 w g T a b c) : w.cell? ⟨g, 0, none⟩ = some (.int .i64 a) ∧ w.cell? ⟨g, 1, none⟩ = some (.int .i64 b) ∧ w.cell? ⟨g, 2, none⟩ = some (.int .i64 c) ∧ (∀ i, w.frozen? ⟨g, i, none⟩ = false) ∧ g < w.heap.size := by
  unfold E3 at h
  refine ⟨?_, ?_, ?_, fun i => Lib.frozen_of_heap h i, lt_of_get h⟩ <;> rw [Lib.cell_of_heap h] <;> rfl
theorem Keep.set3 (w : World) (b i j k : Nat) (u v z : Value) : Keep (· = b) w (((w.setCell ⟨b, i, none⟩ u).setCell ⟨b, j, none⟩ v).setCell ⟨b, k, none⟩ z) := (((Keep.refl (fun x => x = b) w).set ⟨b, i, none⟩ rfl u).set ⟨b, j, none⟩ rfl v).set ⟨b, k, none⟩ rfl z
theorem BX.keep_all {w w' : World} {g p : Nat} {T : TypeId} {h : XH} {A : Option Addr} {n c : Nat} (x : BX w g T h A n c) (k : Keep (· = p) w w') (hp : g ≠ p) : w'.cell? ⟨g, 0, none⟩ = some (.int .i64 h.k) ∧ w'.cell? ⟨g, 1, none⟩ = some (.int .i64 h.f) ∧ w'.cell? ⟨g, 2, none⟩ = some (.int .i64 h.l) ∧ w'.cell? ⟨g, 3, none⟩ = some (.int .i64 h.c) ∧ w'.cell? ⟨g, 4, none⟩ = some (.string h.s) ∧ w'.cell? ⟨g, 5, none⟩ = some (.slice A n c) := (x.keep k hp).all
theorem mt47 : (⟨#[47]⟩ : ByteArray).toList = [47] := by rw [Go.Lib.toList_data]
theorem ev_aw (env : ByteArray → Option Int) : ev env (.b ⟨4, 0, 0, 0, ⟨#[47]⟩⟩ (XVal 7) (XVal (-2))) = okR (-3) := by
  show chk _ (rawB _ (ev env (XVal 7)) (ev env (XVal (-2)))) = _
  rw [ev_val env 7 ⟨by decide, by decide⟩, ev_val env (-2) ⟨by decide, by decide⟩]
  have e : rawB ⟨4, 0, 0, 0, ⟨#[47]⟩⟩ (okR 7) (okR (-2)) = okR (-3) := by
    unfold rawB
    rw [if_pos rfl, mt47]
    rfl
  rw [e, chk_in ⟨by decide, by decide⟩]
theorem xv7 : XVal 7 = .z ⟨1, 0, 0, 0, decB 7⟩ := rfl
theorem xvm2 : XVal (-2) = .u ⟨3, 0, 0, 0, ⟨#[45]⟩⟩ (.z ⟨1, 0, 0, 0, decB 2⟩) := rfl
set_option maxRecDepth 100000 in
set_option maxHeartbeats 3200000 in
theorem awake_t (w : World) (hT : LT w) : Calls Tryz.prog 5 #[] w (RV w (.bool true)) := by
  have h7 := fun W (h : LT W) => Value_pos 7 7 (by decide) W h
  have h2 := fun W (h : LT W) => Value_neg (-2) 2 (by decide) (by decide) (by decide) W h
  have hW := fun W => With_nil ⟨#[97]⟩ 1 W (by decide) ⟨by decide, by decide⟩
  obtain ⟨s7, hs7⟩ : ∃ s, decB 7 = s := ⟨_, rfl⟩
  obtain ⟨s2, hs2⟩ : ∃ s, decB 2 = s := ⟨_, rfl⟩
  have hE := fun (W : World) (A : Option Addr) (c m n : Nat) (hm : MapIs W m n (DM [((⟨#[97]⟩ : ByteArray).data.toList, (1 : Int))])) (hx : XAr W W.heap.size (.b ⟨4, 0, 0, 0, ⟨#[47]⟩⟩ (XVal 7) (XVal (-2))) A) (hn : n ≤ 1000) =>
    Eval_t (.b ⟨4, 0, 0, 0, ⟨#[47]⟩⟩ (XVal 7) (XVal (-2))) A c (some m) _ W (.inr ⟨m, n, rfl, hm, by simpa using hn⟩) hx ⟨Or.inl ⟨rfl, Or.inl (by show (⟨#[47]⟩ : ByteArray).toList ∈ bin19; rw [mt47]; decide)⟩, wx_val 7 ⟨by decide, by decide⟩, wx_val (-2) ⟨by decide, by decide⟩⟩
  rw [ev_aw] at hE
  rw [xv7, xvm2] at hE
  rw [hs7] at h7 hE
  rw [hs2] at h2 hE
  unfold KO at hE
  unfold WI at hW
  replace hE : ∀ (W : World) (A : Option Addr) (c m n : Nat), MapIs W m n (DM [((⟨#[97]⟩ : ByteArray).data.toList, (1 : Int))]) → XAr W W.heap.size (.b ⟨4, 0, 0, 0, ⟨#[47]⟩⟩ (.z ⟨1, 0, 0, 0, s7⟩) (.u ⟨3, 0, 0, 0, ⟨#[45]⟩⟩ (.z ⟨1, 0, 0, 0, s2⟩))) A → n ≤ 1000 →
      Calls Tryz.prog 10 #[.agg #[.int .i64 4, .int .i64 0, .int .i64 0, .int .i64 0, .string ⟨#[47]⟩, .slice A 2 c], .agg #[.map (some m)]] W fun x w' => x = .returned (.tuple #[.int .i64 (-3), .agg #[.int .i64 0, .int .i64 0, .int .i64 0], .int .i64 0]) ∧ Below W.heap.size W w' := hE
  replace h7 := Lib.hid h7
  replace h2 := Lib.hid h2
  replace hW := Lib.hid hW
  replace hE := Lib.hid hE
  replace hT := Lib.hid hT
  clear hs7 hs2
  go_enter Tryz.func5, Tryz.ntmps5
  go_wp2_with fail
  (with_reducible refine (h7.out _ hT.out).mono ?_)
  rintro e w1 ⟨rfl, hb1⟩
  have hT1 := Lib.hid (hT.out.on hb1)
  replace hb1 := Lib.hid hb1
  go_wp2_with fail
  (with_reducible refine (h2.out _ hT1.out).mono ?_)
  rintro e w2 ⟨b, rfl, hb, hx, hb2⟩
  have hbw2 := below_call hb2 hb1.out
  clear hb2
  obtain ⟨g3, hg3⟩ : ∃ g3, w2.heap.size = g3 := ⟨_, rfl⟩
  have hR := heap_alloc_new w2 (R12 ⟨1, 0, 0, 0, s7⟩ ⟨3, 0, 0, 0, ⟨#[45]⟩⟩ none 0 0 (some ⟨b, 0, none⟩) 1 1 47)
  have hbR := (Below.refl w2.heap.size w2).alloc (Nat.le_refl _) (R12 ⟨1, 0, 0, 0, s7⟩ ⟨3, 0, 0, 0, ⟨#[45]⟩⟩ none 0 0 (some ⟨b, 0, none⟩) 1 1 47)
  have hsz3 : (w2.alloc (R12 ⟨1, 0, 0, 0, s7⟩ ⟨3, 0, 0, 0, ⟨#[45]⟩⟩ none 0 0 (some ⟨b, 0, none⟩) 1 1 47)).heap.size = g3 + 1 := by simp [hg3]
  rw [hg3] at hR hb
  obtain ⟨w3, hw3⟩ : ∃ w3, w2.alloc (R12 ⟨1, 0, 0, 0, s7⟩ ⟨3, 0, 0, 0, ⟨#[45]⟩⟩ none 0 0 (some ⟨b, 0, none⟩) 1 1 47) = w3 := ⟨_, rfl⟩
  rw [hw3] at hR hbR hsz3
  have hx3 := hx.over (by omega) hbR
  have hb3 := below_call hbR hbw2
  have hR4 := heap_alloc_new w3 (.cells #[.int .i64 4, .int .i64 0, .int .i64 0, .int .i64 0, .string ⟨#[47]⟩, .slice (some ⟨g3, 0, none⟩) 2 2] 47)
  have hbR4 := (Below.refl w3.heap.size w3).alloc (Nat.le_refl _) (.cells #[.int .i64 4, .int .i64 0, .int .i64 0, .int .i64 0, .string ⟨#[47]⟩, .slice (some ⟨g3, 0, none⟩) 2 2] 47)
  have hsz4 : (w3.alloc (.cells #[.int .i64 4, .int .i64 0, .int .i64 0, .int .i64 0, .string ⟨#[47]⟩, .slice (some ⟨g3, 0, none⟩) 2 2] 47)).heap.size = g3 + 1 + 1 := by simp [hsz3]
  rw [hsz3] at hR4
  have hX4 : XAr (w3.alloc (.cells #[.int .i64 4, .int .i64 0, .int .i64 0, .int .i64 0, .string ⟨#[47]⟩, .slice (some ⟨g3, 0, none⟩) 2 2] 47)) (g3 + 1 + 1) (.b ⟨4, 0, 0, 0, ⟨#[47]⟩⟩ (.z ⟨1, 0, 0, 0, s7⟩) (.u ⟨3, 0, 0, 0, ⟨#[45]⟩⟩ (.z ⟨1, 0, 0, 0, s2⟩))) (some ⟨g3, 0, none⟩) :=
    pair_ar (a1 := .z ⟨1, 0, 0, 0, s7⟩) (a2 := .u ⟨3, 0, 0, 0, ⟨#[45]⟩⟩ (.z ⟨1, 0, 0, 0, s2⟩)) (c1 := 0) (c2 := 1) (T := 47) ((hbR4.block g3 (by omega)).trans hR) (by omega) trivial ⟨b, 0, rfl, by omega, none, 0, hx3.over (by omega) hbR4, trivial⟩
  have hb4 := below_call hbR4 hb3
  obtain ⟨w4, hw4⟩ : ∃ w4, w3.alloc (.cells #[.int .i64 4, .int .i64 0, .int .i64 0, .int .i64 0, .string ⟨#[47]⟩, .slice (some ⟨g3, 0, none⟩) 2 2] 47) = w4 := ⟨_, rfl⟩
  rw [hw4] at hR4 hX4 hb4 hsz4
  have hB4 : BX w4 (g3 + 1) 47 ⟨4, 0, 0, 0, ⟨#[47]⟩⟩ (some ⟨g3, 0, none⟩) 2 2 := hR4
  obtain ⟨k0, k1, k2, k3, k4, k5⟩ := hB4.all
  have kl := hB4.lt
  have kk : w4.drew.cell? ⟨g3 + 1, 0, none⟩ = some (.int .i64 4) ∧ w4.drew.cell? ⟨g3 + 1, 1, none⟩ = some (.int .i64 0) ∧ w4.drew.cell? ⟨g3 + 1, 2, none⟩ = some (.int .i64 0) ∧ w4.drew.cell? ⟨g3 + 1, 3, none⟩ = some (.int .i64 0) ∧ w4.drew.cell? ⟨g3 + 1, 4, none⟩ = some (.string ⟨#[47]⟩) ∧ w4.drew.cell? ⟨g3 + 1, 5, none⟩ = some (.slice (some ⟨g3, 0, none⟩) 2 2) := ⟨k0, k1, k2, k3, k4, k5⟩
  have kka := (hB4.alloc (.cells #[.int .i64 0, .int .i64 0, .int .i64 0] 30)).drew.all
  clear hR hbR hx3 hb3 hbR4 hx hR4 hbw2
  replace hB4 := Lib.hid hB4
  replace hX4 := Lib.hid hX4
  replace hb4 := Lib.hid hb4
  replace hsz4 := Lib.hid hsz4
  go_wp2_with fail
  go_region_held3 (fun w' => w'.cell? ⟨g3 + 1, 0, none⟩ = some (.int .i64 4) ∧ w'.cell? ⟨g3 + 1, 1, none⟩ = some (.int .i64 0) ∧ w'.cell? ⟨g3 + 1, 2, none⟩ = some (.int .i64 0) ∧ w'.cell? ⟨g3 + 1, 3, none⟩ = some (.int .i64 0) ∧ w'.cell? ⟨g3 + 1, 4, none⟩ = some (.string ⟨#[47]⟩) ∧ w'.cell? ⟨g3 + 1, 5, none⟩ = some (.slice (some ⟨g3, 0, none⟩) 2 2))
    (first | (with_reducible exact kk) | (with_reducible exact kka) | (with_reducible exact kk5) | (with_reducible exact kk5a) | (with_reducible exact kk6) | (with_reducible exact kk6a) | (exact BX.keep_all hB6 (Keep.set3 _ _ _ _ _ _ _ _) (by first | omega | (rw [hsz4.out]; omega))))
    (first | (go_at_call 14; (with_reducible refine (hW.out _).mono ?_); rintro e w5 ⟨m, n, rfl, hm5, hn5, hml, hb5⟩; have hq5 : Below w4.heap.size w4 w5 := (by first | exact undrew hb5 | exact undrew_al hb5); have hB5 := hB4.out.over hq5; have kk5 := hB5.all; have kk5a := (hB5.alloc (.cells #[.int .i64 0, .int .i64 0, .int .i64 0] 30)).all; have hX5 := hX4.out.over (hq5.mono (show g3 + 1 + 1 ≤ w4.heap.size by rw [hsz4.out]; exact Nat.le_refl _)); have z5 : g3 + 1 + 1 ≤ w5.heap.size := (by have := hq5.size; rw [hsz4.out] at this; exact this); (try have hP5 := (E3.new w4 30 0 0 0).over (undrew hb5))) | (go_at_call 10; (first | (with_reducible refine (hE.out w5 _ _ m n hm5 (hX5.mono z5) (by simpa using hn5)).mono ?_) | (with_reducible refine (hE.out (w5.alloc (.cells #[.int .i64 0, .int .i64 0, .int .i64 0] 30)) _ _ m n (hm5.alloc _) ((hX5.over ((Below.refl (g3 + 1 + 1) w5).alloc z5 (.cells #[.int .i64 0, .int .i64 0, .int .i64 0] 30))).mono (by simp; omega)) (by simpa using hn5)).mono ?_)); rintro e w6 ⟨rfl, hb6⟩; have hq6 : Below w5.heap.size w5 w6 := (by first | exact hb6 | exact below_al hb6); have hB6 := hB5.over hq6; have kk6 := hB6.all; have kk6a := (hB6.alloc (.cells #[.int .i64 0, .int .i64 0, .int .i64 0] 30)).all; (try have hP6 := hP5.over hq6); (try have hP6 := (E3.new w5 30 0 0 0).over hb6); (try have hP7 := hP6.all)))
  all_goals (have hbf := below_call hq6 (below_call hq5 hb4.out); have y4 := hb4.out.size; have y5 := hq5.size; have y6 := hq6.size; have y7 : w.heap.size ≤ w6.heap.size := Nat.le_trans y4 (Nat.le_trans y5 y6); clear hb5 hb6 hq5 hq6 kk kka kk5 kk5a kk6 kk6a hX5 hm5 hB5 hB6)
  all_goals go_wp2_with fail
  all_goals go_ret
  all_goals exact ⟨rfl, by go_grown⟩
end Go.Proofs.YtcifljbcoioogaaGreatDoor

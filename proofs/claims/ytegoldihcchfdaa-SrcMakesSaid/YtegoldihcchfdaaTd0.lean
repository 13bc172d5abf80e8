/-
  What the walks of SrcPlaces share: a table of two files, and positions in the second.
-/
import Derived.Test.YtegoldihcchfdaaTc
import Derived.Test.YtegoldihcchfdaaSi
import Derived.Laws.StructEq
namespace Go.Proofs.Ytegoldihcchfdaa
open Go.RowKit
abbrev PV (w : World) (b : Nat) (x y z : Int) : Prop := R3 44 w b (.int .i64 x) (.int .i64 y) (.int .i64 z)
theorem R3.set0 {t : TypeId} {w : World} {b : Nat} {x y z : Value} (h : R3 t w b x y z) (u : Value) : R3 t (w.setCell ⟨b, 0, none⟩ u) b u y z := by
  refine World.rowIs.congr (World.rowIs.set h 0 u) fun i hi => ?_
  match i, hi with
  | 0, _ => rfl
  | 1, _ => rfl
  | 2, _ => rfl
theorem PV.set0 {w : World} {b : Nat} {x y z : Int} (h : PV w b x y z) (u : Int) : PV (w.setCell ⟨b, 0, none⟩ (.int .i64 u)) b u y z := R3.set0 h _
theorem Tab.set1 {w : World} {q n g : Nat} {nm tx : Nat → ByteArray} {a b c : Value} (h : Tab w q n nm tx) (hg : R3 44 w g a b c) (u : Int) : Tab (w.setCell ⟨g, 0, none⟩ (.int .i64 u)) q n nm tx := by
  obtain ⟨v, h1, h2⟩ := h
  refine ⟨v, h1.far (fun e => ?_) _, h2.far hg (by decide) (by decide) _⟩
  obtain ⟨c1, e1, _⟩ := h1
  obtain ⟨c2, e2, _⟩ := hg
  have e3 : q = g := e
  rw [e3, e2] at e1
  injection e1 with e1
  injection e1 with _ e4
  revert e4; decide
def nmx (j : Nat) : ByteArray := if j = 0 then ⟨#[120]⟩ else ⟨#[121]⟩
def txx (b : ByteArray) (j : Nat) : ByteArray := if j = 0 then ⟨#[]⟩ else b
theorem y_name : nameB ⟨#[121]⟩ = true := by decide
theorem ferr_two (b : ByteArray) (hb : b.size ≤ 32768) : ferr 2 nmx (txx b) = 0 := by
  have h0 : nmx 0 = ⟨#[120]⟩ := rfl
  have h1 : nmx 1 = ⟨#[121]⟩ := rfl
  have t0 : txx b 0 = ⟨#[]⟩ := rfl
  have t1 : txx b 1 = b := rfl
  unfold ferr
  have d1 : ((nmx 0).toList == (nmx 1).toList) = false := by rw [← beq_toListBytes, h0, h1]; decide
  have d : dupB nmx 2 = false := by simp only [dupB, anyB, d1, Bool.or_false]
  rw [if_neg (by omega), if_neg (by simp [anyB, h0, h1, x_name, y_name]), if_neg (by rw [d]; decide), if_neg (by simp only [totB, t0, t1, show (⟨#[]⟩ : ByteArray).size = 0 from rfl]; omega)]
theorem RF_two (w : World) (b : ByteArray) : RF (w.alloc (.cells #[.string ⟨#[120]⟩, .string ⟨#[]⟩, .string ⟨#[121]⟩, .string b] 34)) (some ⟨w.heap.size, 0, none⟩) 2 nmx (txx b) := fun _ =>
  ⟨w.heap.size, 0, rfl, by simp, fun j hj => by
    have h : j = 0 ∨ j = 1 := by omega
    rcases h with rfl | rfl
    · exact ⟨World.cell?_alloc_new w _ _ 0, World.cell?_alloc_new w _ _ 1⟩
    · exact ⟨World.cell?_alloc_new w _ _ 2, World.cell?_alloc_new w _ _ 3⟩⟩
theorem New_two (b : ByteArray) (g : Nat) (w : World) (hg : g = w.heap.size) (hb : b.size ≤ 32768) :
    Calls Try.prog 10 #[.slice (some ⟨g, 0, none⟩) 2 2] (w.alloc (.cells #[.string ⟨#[120]⟩, .string ⟨#[]⟩, .string ⟨#[121]⟩, .string b] 34)) (NV (w.alloc (.cells #[.string ⟨#[120]⟩, .string ⟨#[]⟩, .string ⟨#[121]⟩, .string b] 34)) 2 nmx (txx b)) := by
  subst hg
  refine New_ok 2 2 _ _ _ _ (RF_two w b) (by omega) (by omega) (fun j _ => ?_) (ferr_two b hb)
  unfold txx; split
  · decide
  · exact hb
theorem Pos_bad2 (b : ByteArray) (q : Nat) (o : Int) (w : World) (h : Tab w q 2 nmx (txx b)) (ho : o < 0 ∨ (b.size : Int) < o) :
    Calls Try.prog 18 #[.pointer (some ⟨q, 0, none⟩), .int .i64 2, .int .i64 o] w (RV w (.tuple #[pv 0 0 0, .int .i64 3])) := by
  have h := Pos_bad q 2 1 o nmx (txx b) w h (by omega) (by omega) ho
  rw [show ((1 : Nat) : Int) + 1 = 2 from rfl] at h; exact h
theorem Pos_ok2 (b : ByteArray) (q k : Nat) (w : World) (h : Tab w q 2 nmx (txx b)) (hk : k ≤ b.size) (hb : b.size ≤ 17592186000000) :
    Calls Try.prog 18 #[.pointer (some ⟨q, 0, none⟩), .int .i64 2, .int .i64 (k : Int)] w (RV w (.tuple #[pv 2 ((plL b k : Nat) : Int) ((plC b k : Nat) : Int), .int .i64 0])) := by
  have h := Pos_ok q 2 1 k nmx (txx b) w h (by omega) (by omega) hk hb
  rw [show ((1 : Nat) : Int) + 1 = 2 from rfl, show txx b 1 = b from rfl] at h; exact h
theorem Offset_none2 (b : ByteArray) (q : Nat) (l c : Int) (w : World) (h : Tab w q 2 nmx (txx b)) (hl : hasB b l = false) :
    Calls Try.prog 20 #[.pointer (some ⟨q, 0, none⟩), pv 2 l c] w (RV w (.tuple #[.int .i64 0, .int .i64 3])) := by
  have h := Offset_noline q 2 1 l c nmx (txx b) w h (by omega) (by omega) hl
  rw [show ((1 : Nat) : Int) + 1 = 2 from rfl] at h; exact h
theorem Offset_line2 (b : ByteArray) (q j : Nat) (c : Int) (w : World) (h : Tab w q 2 nmx (txx b)) (hj : j < nOf b) (hb : b.size ≤ 17592186000000) :
    Calls Try.prog 20 #[.pointer (some ⟨q, 0, none⟩), pv 2 ((j : Int) + 1) c] w (RV w (if 1 ≤ c ∧ c ≤ (eOf b j : Int) - (sOf b j : Int) + 1 then .tuple #[.int .i64 ((sOf b j : Int) + c - 1), .int .i64 0] else .tuple #[.int .i64 0, .int .i64 3])) := by
  have h := Offset_line q 2 1 j c nmx (txx b) w h (by omega) (by omega) hj hb
  rw [show ((1 : Nat) : Int) + 1 = 2 from rfl, show txx b 1 = b from rfl] at h; exact h
theorem Offset_back (b : ByteArray) (q k : Nat) (w : World) (h : Tab w q 2 nmx (txx b)) (hk : k ≤ b.size) (hb : b.size ≤ 17592186000000) :
    Calls Try.prog 20 #[.pointer (some ⟨q, 0, none⟩), pv 2 ((plL b k : Nat) : Int) ((plC b k : Nat) : Int)] w (RV w (.tuple #[.int .i64 (k : Int), .int .i64 0])) := by
  have hp := plL_pos b k
  obtain ⟨h1, h2, h3, h4⟩ := byte_of b k (plL b k - 1) (plC b k) hk (by omega) rfl
  have h := Offset_line2 b q (plL b k - 1) ((plC b k : Nat) : Int) w h h1 hb
  rw [if_pos ⟨by omega, by omega⟩, show (((plL b k - 1 : Nat) : Int) + 1) = ((plL b k : Nat) : Int) by omega, show (sOf b (plL b k - 1) : Int) + ((plC b k : Nat) : Int) - 1 = (k : Int) by omega] at h
  exact h
theorem no_line (b : ByteArray) (l c : Int) (h : hasB b l = false) (i : Nat) (hi : i ≤ b.size) : ¬ (((plL b i : Nat) : Int) = l ∧ ((plC b i : Nat) : Int) = c) := by
  rintro ⟨rfl, -⟩
  have hp := plL_pos b i
  have hm : plL b i ≤ nOf b := plL_mono b i _ hi
  unfold hasB at h
  simp at h
  omega
theorem no_col (b : ByteArray) (j : Nat) (c : Int) (_hj : j < nOf b) (h : ¬ (1 ≤ c ∧ c ≤ (eOf b j : Int) - (sOf b j : Int) + 1)) (i : Nat) (hi : i ≤ b.size) : ¬ (((plL b i : Nat) : Int) = (j : Int) + 1 ∧ ((plC b i : Nat) : Int) = c) := by
  rintro ⟨h1, h2⟩
  obtain ⟨k1, k2, k3, k4⟩ := byte_of b i j (plC b i) hi (by omega) rfl
  exact h ⟨by omega, by omega⟩
theorem at_col (b : ByteArray) (j : Nat) (c : Int) (hj : j < nOf b) (h : 1 ≤ c ∧ c ≤ (eOf b j : Int) - (sOf b j : Int) + 1) : ∃ m : Nat, (sOf b j : Int) + c - 1 = (m : Int) ∧ m ≤ b.size ∧ ((plL b m : Nat) : Int) = (j : Int) + 1 ∧ ((plC b m : Nat) : Int) = c := by
  obtain ⟨h1, h2⟩ := h
  have h3 := eOf_le b j
  have h4 := eOf_ge b j hj
  refine ⟨((sOf b j : Int) + c - 1).toNat, by omega, by omega, ?_⟩
  obtain ⟨k1, k2⟩ := line_of b j ((sOf b j : Int) + c - 1).toNat hj (by omega) (by omega)
  exact ⟨by omega, by omega⟩
end Go.Proofs.Ytegoldihcchfdaa

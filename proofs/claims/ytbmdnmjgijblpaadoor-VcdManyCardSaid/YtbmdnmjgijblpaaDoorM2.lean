/-
  Plain arithmetic of sums, differences, products, shifts and comparisons of numbers held in two words; nothing here speaks of the program.
  Plain arithmetic of shifts and comparisons of numbers held in two words; nothing here speaks of the program.
  Plain arithmetic of long division; and words for memory: a block that is known whole.
  Plain arithmetic of the ring laws and of division with and without signs; nothing here speaks of the program.
-/
import Derived.Test.YtbmdnmjgijblpaaDoorM
import Derived.Laws.MathBits
import Derived.Laws.Externs
import Derived.Below
import Derived.Laws.OwnMore
import Derived.Deep.Draws
import Derived.Laws.Rows
import Derived.Deep.OwnRows
namespace Go.Proofs.YtbmdnmjgijblpaaDoor
open Go

theorem pow_cast (k : Nat) : ((2 : Int) ^ k) = ((2 ^ k : Nat) : Int) := by simp
end Go.Proofs.YtbmdnmjgijblpaaDoor
namespace Go.Proofs.YtbmdnmjgijblpaaDoor
open Go

end Go.Proofs.YtbmdnmjgijblpaaDoor
namespace Go.Proofs.YtbmdnmjgijblpaaDoor
open Go Go.RowKit

/-- The three cells of a vector. -/
def vcell (n x : Nat) : Nat → Value
  | 0 => .int .i64 (n : Int)
  | 1 => .int .u64 ((lo x : Nat) : Int)
  | _ => .int .u64 ((hi x : Nat) : Int)
/-- Block b of memory is a variable that holds the vector x of n bits. -/
def HV (t : TypeId) (w : World) (b n x : Nat) : Prop := w.rowIs b t 3 (vcell n x)
section
variable {t : TypeId} {w w' : World} {b n x : Nat}
theorem HV.c0 (h : HV t w b n x) : w.cell? ⟨b, 0, none⟩ = some (.int .i64 (n : Int)) := World.rowIs.cell h (i := 0) (by decide)
theorem HV.c1 (h : HV t w b n x) : w.cell? ⟨b, 1, none⟩ = some (.int .u64 ((lo x : Nat) : Int)) := World.rowIs.cell h (i := 1) (by decide)
theorem HV.c2 (h : HV t w b n x) : w.cell? ⟨b, 2, none⟩ = some (.int .u64 ((hi x : Nat) : Int)) := World.rowIs.cell h (i := 2) (by decide)
theorem HV.fz (h : HV t w b n x) : ∀ i, w.frozen? ⟨b, i, none⟩ = false := World.rowIs.frozen h
theorem HV.all (h : HV t w b n x) : w.cell? ⟨b, 0, none⟩ = some (.int .i64 (n : Int)) ∧ w.cell? ⟨b, 1, none⟩ = some (.int .u64 ((lo x : Nat) : Int)) ∧ w.cell? ⟨b, 2, none⟩ = some (.int .u64 ((hi x : Nat) : Int)) ∧ ∀ i, w.frozen? ⟨b, i, none⟩ = false := ⟨h.c0, h.c1, h.c2, h.fz⟩
theorem HV.lt (h : HV t w b n x) : b < w.heap.size := World.rowIs.lt h
theorem HV.over (h : HV t w b n x) (hb : Below w.heap.size w w') : HV t w' b n x := World.rowIs.of_block h (hb.block b h.lt)
theorem HV.drew (h : HV t w b n x) : HV t w.drew b n x := h
theorem HV.drewN (h : HV t w b n x) (k : Nat) : HV t (w.drewN k) b n x := h
theorem HV.alloc (h : HV t w b n x) (o : Obj) : HV t (w.alloc o) b n x := World.rowIs.alloc h o
theorem HV.far (h : HV t w b n x) {p : Addr} (hp : b ≠ p.block) (u : Value) : HV t (w.setCell p u) b n x := World.rowIs.setOther h hp u
theorem HV.set1 (h : HV t w b n x) (y : Nat) (hy : hi x = hi y) : HV t (w.setCell ⟨b, 1, none⟩ (.int .u64 ((lo y : Nat) : Int))) b n y := by
  refine World.rowIs.congr (World.rowIs.set h 1 _) fun i hi => ?_
  match i, hi with
  | 0, _ => rfl
  | 1, _ => rfl
  | 2, _ => simp [vcell, hy]
theorem HV.made {cs : Array Value} (h : w.heap[b]? = some (.cells cs t (0, 0))) (hc : cs = #[.int .i64 (n : Int), .int .u64 ((lo x : Nat) : Int), .int .u64 ((hi x : Nat) : Int)]) : HV t w b n x := by
  subst hc
  refine ⟨_, h, rfl, fun i hi => ?_⟩
  match i, hi with
  | 0, _ => rfl
  | 1, _ => rfl
  | 2, _ => rfl
theorem HV.new (w : World) (t : TypeId) (n x : Nat) : HV t (w.alloc (.cells #[.int .i64 (n : Int), .int .u64 ((lo x : Nat) : Int), .int .u64 ((hi x : Nat) : Int)] t)) w.heap.size n x := HV.made (heap_alloc_new w _) rfl
end
/-- The cells of a vector, as an array. -/
abbrev vcs (n x : Nat) : Array Value := #[.int .i64 (n : Int), .int .u64 ((lo x : Nat) : Int), .int .u64 ((hi x : Nat) : Int)]
abbrev zcs : Array Value := #[.int .i64 0, .int .u64 0, .int .u64 0]
theorem HV.zero (w : World) (t : TypeId) : HV t (w.alloc (.cells zcs t)) w.heap.size 0 0 := HV.new w t 0 0
end Go.Proofs.YtbmdnmjgijblpaaDoor
namespace Go.Proofs.YtbmdnmjgijblpaaDoor
open Go
end Go.Proofs.YtbmdnmjgijblpaaDoor

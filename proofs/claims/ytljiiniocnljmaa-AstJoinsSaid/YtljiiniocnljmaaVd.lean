/-
  What the maker makes; a tree is appended to a row; a row of trees is made.
-/
import Derived.Test.YtljiiniocnljmaaVc
namespace Go.Proofs.Ytljiiniocnljmaa
open Go.RowKit Go.Lib
/-- What a node is that the maker makes. -/
structure NM (h : XH) : Prop where
  f : h.f = 0
  l : h.l = 0
  c : h.c = 0
  k1 : h.k = 1 → h.s.toList ∈ nu8
  k2 : h.k = 2 ∨ h.k = 8 ∨ h.k = 9 → h.s.toList ∈ nm8
  k3 : h.k = 3 → h.s.toList ∈ un9
  k4 : h.k = 4 → h.s.toList ∈ op21
  k5 : h.k = 5 ∨ h.k = 6 ∨ h.k = 7 → h.s.toList = []
  ka : h.k = 10 → h.s.toList ∈ cl4
def WM : XT → Prop
  | .z h => NM h ∧ (h.k = 1 ∨ h.k = 2)
  | .u h a => NM h ∧ (h.k = 3 ∨ h.k = 6 ∨ h.k = 8 ∨ h.k = 10) ∧ WM a
  | .b h a b => NM h ∧ (h.k = 4 ∨ h.k = 6 ∨ h.k = 7 ∨ h.k = 9 ∨ h.k = 10) ∧ WM a ∧ WM b
  | .t h a b c => NM h ∧ (h.k = 5 ∨ h.k = 6 ∨ h.k = 7) ∧ WM a ∧ WM b ∧ WM c
theorem sz_of {s : ByteArray} {L : List (List UInt8)} (h : s.toList ∈ L) (hL : ∀ l ∈ L, l.length ≤ 64) : s.size ≤ 64 := by
  have := hL _ h
  rw [Go.Lib.toList_data] at this
  simpa using this
theorem op_split (l : List UInt8) (h : l ∈ op21) : l ∈ bin19 ∨ l = [38, 38] ∨ l = [124, 124] := by
  have : ∀ x ∈ op21, x ∈ bin19 ∨ x = [38, 38] ∨ x = [124, 124] := by decide
  exact this l h
theorem WM.wx : ∀ {t : XT}, WM t → WX t
  | .z h, ⟨n, k⟩ => ⟨k, by
    rcases k with k | k
    · exact sz_of (n.k1 k) (by decide)
    · exact sz_of (n.k2 (.inl k)) (by decide)⟩
  | .u h a, ⟨n, k, x⟩ => ⟨by
    rcases k with k | k | k | k
    · exact .inl ⟨k, n.k3 k⟩
    · exact .inr (.inl k)
    · exact .inr (.inr (.inl k))
    · exact .inr (.inr (.inr k)), WM.wx x⟩
  | .b h a b, ⟨n, k, x, y⟩ => ⟨by
    rcases k with k | k | k | k | k
    · exact .inl ⟨k, op_split _ (n.k4 k)⟩
    · exact .inr (.inl k)
    · exact .inr (.inr (.inl k))
    · exact .inr (.inr (.inr (.inl k)))
    · exact .inr (.inr (.inr (.inr k))), WM.wx x, WM.wx y⟩
  | .t h a b c, ⟨n, k, x, y, z⟩ => ⟨k, WM.wx x, WM.wx y, WM.wx z⟩
theorem info_expr : (Try.prog.info? 32).map (fun i => (i.zero, i.size, i.bytes)) = some (some (.agg #[.int .i64 0, .int .i64 0, .int .i64 0, .int .i64 0, .string ⟨#[]⟩, .slice none 0 0]), 6, 72) := by kernel_rfl
/-- The blocks beside a row's own, from base on. -/
def GX (base : Nat) (v : Value) (w : World) (b : Nat) : Prop := base ≤ b ∧ b < w.heap.size ∧ some b ≠ v.ownBlock
theorem own_ltT {w : World} {B n s : Nat} {e : TypeId} {v : Value} {xs : List Value} (h : w.ownsRow B e s v n xs) : ∀ g, v.ownBlock = some g → B ≤ g ∧ g < w.heap.size := by
  rcases h.2 with ⟨rfl, _⟩ | ⟨g, cap, cur, rfl, hb, hg, h3⟩
  · intro g hg; cases hg
  · intro g' hg'
    cases hg'
    exact ⟨hb, (Array.getElem?_eq_some_iff.1 hg).1⟩
theorem own_keepT {w w' : World} {B n : Nat} {e : TypeId} {sz : Nat} {v : Value} {xs : List Value} (h : w.ownsRow B e sz v n xs) (hk : ∀ b, v.ownBlock = some b → w'.heap[b]? = w.heap[b]?) : w'.ownsRow B e sz v n xs := by
  refine ⟨h.1, ?_⟩
  rcases h.2 with hn | ⟨g, cap, cur, rfl, hb, hgg, rest⟩
  · exact .inl hn
  · exact .inr ⟨g, cap, cur, rfl, hb, (hk g rfl).trans hgg, rest⟩
theorem own_shape {w : World} {B n : Nat} {e : TypeId} {sz : Nat} {v : Value} {xs : List Value} (h : w.ownsRow B e sz v n xs) : ∃ A c, v = .slice A n c := by
  rcases h.2 with ⟨rfl, hn⟩ | ⟨g, cap, cur, rfl, _⟩
  · exact ⟨none, 0, by rw [hn]⟩
  · exact ⟨_, _, rfl⟩
theorem GX.grow {base : Nat} {v : Value} {w w' : World} (h : w.heap.size ≤ w'.heap.size) : ∀ b, GX base v w b → GX base v w' b := fun _ hb => ⟨hb.1, Nat.lt_of_lt_of_le hb.2.1 h, hb.2.2⟩
/-- Behind the append. -/
theorem row_grown {w2 w6 : World} {base g k cap : Nat} {v : Value} {rs : List XE} {r : XE} (hg : w2.grownBy w6 v.ownBlock) (hat : v.ownBlock = some g ∨ g = w2.heap.size) (hX : XRow w2 (GX base v w2) rs) (hr : XQ w2 (GX base v w2) r.t r.A) :
    XRow w6 (GX base (.slice (some ⟨g, 0, none⟩) k cap) w6) (rs ++ [r]) := by
  refine (hX.snoc hr).over (fun b hb => hg.block b hb.2.1 hb.2.2) fun b hb => ⟨hb.1, Nat.lt_of_lt_of_le hb.2.1 hg.size, fun e => ?_⟩
  have e1 : some b = some g := e
  injection e1 with e1
  subst e1
  rcases hat with h | h
  · exact hb.2.2 h.symm
  · have := hb.2.1; omega
theorem keep_grown {w2 w6 : World} {row : Option Nat} {F : Nat → Prop} (hg : w2.grownBy w6 row) (hF : ∀ b, row = some b → F b) : Keep F w2 w6 :=
  ⟨hg.os, hg.tape, hg.output, hg.size, fun b hb hn => hg.block b hb fun e => hn (hF b e.symm)⟩
/-- What MakeExpr leaves. -/
def MXm (D p B : Nat) (w : World) (e : Ending) (w' : World) : Prop := ∃ t A c, e = .returned (xv t.h A t.args.length c) ∧ WM t ∧ t.dep ≤ D ∧ XQ w' (fun b => w.heap.size ≤ b ∧ b < w'.heap.size) t A ∧ MKm w' p B ∧ Keep (· = p) w w'
/-- What MakeExprs leaves. -/
def MXms (D p B n : Nat) (w : World) (e : Ending) (w' : World) : Prop := ∃ (ts : List XT) (A : Option Addr) (c : Nat), ts.length = n ∧ e = .returned (.slice A n c) ∧ (∀ t ∈ ts, WM t ∧ t.dep ≤ D) ∧ (∀ hd, XQ w' (fun b => w.heap.size ≤ b ∧ b < w'.heap.size) (mkT hd ts) A) ∧ MKm w' p B ∧ Keep (· = p) w w'
end Go.Proofs.Ytljiiniocnljmaa

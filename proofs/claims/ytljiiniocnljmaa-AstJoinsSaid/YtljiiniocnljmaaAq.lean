/-
  What the walk of AstJoins carries: three trees, a map, slices of strings beside it; the sizes of names.
-/
import Derived.Test.YtljiiniocnljmaaAp
namespace Go.Proofs.Ytljiiniocnljmaa
open Go.RowKit Go.Lib Go.Maps
/-- The trees' variables, all below the map's block. -/
structure JS (w : World) (gm gx gy ge : Nat) (tx ty te : XT) (Ax : Option Addr) (nx cx : Nat) (Ay : Option Addr) (ny cy : Nat) (Ae : Option Addr) (a : World) : Prop where
  x : BX a gx 36 tx.h Ax nx cx
  y : BX a gy 36 ty.h Ay ny cy
  e : BX a ge 36 ⟨6, 0, 0, 0, ⟨#[]⟩⟩ Ae 2 2
  qx : XQ a (· < gm) tx Ax
  qy : XQ a (· < gm) ty Ay
  qe : XQ a (· < gm) te Ae
  k : Below w.heap.size w a
  lx : gx < gm
  ly : gy < gm
  le : ge < gm
  lw : w.heap.size ≤ gm
theorem JS.keep {w a b : World} {gm gx gy ge nx cx ny cy : Nat} {tx ty te : XT} {Ax Ay Ae : Option Addr} (h : JS w gm gx gy ge tx ty te Ax nx cx Ay ny cy Ae a) (k : Below gm a b) : JS w gm gx gy ge tx ty te Ax nx cx Ay ny cy Ae b :=
  ⟨(k.block gx h.lx).trans h.x, (k.block gy h.ly).trans h.y, (k.block ge h.le).trans h.e, h.qx.over (fun c hc => k.block c hc) (fun _ hc => hc), h.qy.over (fun c hc => k.block c hc) (fun _ hc => hc), h.qe.over (fun c hc => k.block c hc) (fun _ hc => hc), h.k.trans (k.mono h.lw), h.lx, h.ly, h.le, h.lw⟩
theorem XQ.up {w : World} {g : Nat} {t : XT} {A : Option Addr} (h : XQ w (· < g) t A) (hg : g ≤ w.heap.size) : XQ w (· < w.heap.size) t A := h.over (fun _ _ => rfl) (fun _ hb => Nat.lt_of_lt_of_le hb hg)
/-- A slice of strings that reads as l, behind the map's block. -/
def SG (gm : Nat) (w : World) (A : Option Addr) (l : List NB) : Prop := 0 < l.length → ∃ b o : Nat, A = some ⟨b, o, none⟩ ∧ gm < b ∧ b < w.heap.size ∧ ∀ j (hj : j < l.length), w.cell? ⟨b, o + j, none⟩ = some (encStr l[j])
theorem SG.keep {gm : Nat} {w w' : World} {A : Option Addr} {l : List NB} (h : SG gm w A l) (k : ∀ b, gm < b → b < w.heap.size → w'.heap[b]? = w.heap[b]?) (hz : w.heap.size ≤ w'.heap.size) : SG gm w' A l := fun h0 => by
  obtain ⟨b, o, e, hg, hb, hc⟩ := h h0
  exact ⟨b, o, e, hg, Nat.lt_of_lt_of_le hb hz, fun j hj => (World.cell?_of_block (k b hg hb)).trans (hc j hj)⟩
theorem SG.over {gm : Nat} {w w' : World} {A : Option Addr} {l : List NB} (h : SG gm w A l) (k : Below w.heap.size w w') : SG gm w' A l := h.keep (fun b _ hb => k.block b hb) k.size
theorem own_SG {w : World} {B gm n c : Nat} {A : Option Addr} {t : TypeId} {l : List NB} (h : w.ownsRow B t 1 (.slice A n c) l.length (l.map encStr)) (hB : gm < B) : SG gm w A l := by
  obtain ⟨hs, _, _⟩ := own_SN h
  intro h0
  obtain ⟨b, o, e, hb, hc⟩ := hs h0
  refine ⟨b, o, e, ?_, hb, hc⟩
  have := own_ltT h b (by rw [e]; rfl)
  omega
theorem MI_blk {w w' : World} {m n : Nat} {D : DU} (h : MapIs w m n D) (e : w'.heap[m]? = w.heap[m]?) : MapIs w' m n D := by
  unfold MapIs World.ownsMap at *
  rw [e]
  exact h
theorem nm1_sz (h : XH) (hN : NM h) : ∀ s ∈ nm1 h, s.length ≤ 64 := by
  intro s hs
  unfold nm1 at hs
  split at hs
  · rename_i hh
    rw [List.mem_singleton.1 hs]
    have hk : h.k = 2 ∨ h.k = 8 ∨ h.k = 9 ∨ h.k = 10 := by
      by_cases a : h.k = 2
      · exact .inl a
      by_cases b : h.k = 8
      · exact .inr (.inl b)
      by_cases c : h.k = 9
      · exact .inr (.inr (.inl c))
      by_cases d : h.k = 10
      · exact .inr (.inr (.inr d))
      rw [hasN_no h a b c d] at hh
      cases hh
    have e : h.s.data.toList = h.s.toList := (Go.Lib.toList_data _).symm
    rw [e]
    by_cases d : h.k = 10
    · have : ∀ l ∈ cl4, l.length ≤ 64 := by decide
      exact this _ (hN.ka d)
    · have : ∀ l ∈ nm8, l.length ≤ 64 := by decide
      exact this _ (hN.k2 (by omega))
  · cases hs
theorem nmp_sz : ∀ t : XT, WM t → ∀ s ∈ t.nmp, s.length ≤ 64
  | .z h, w, s, hs => nm1_sz h w.1 s hs
  | .u h x, w, s, hs => by
    simp only [XT.nmp, List.mem_append] at hs
    rcases hs with e | e
    · exact nm1_sz h w.1 s e
    · exact nmp_sz x w.2.2 s e
  | .b h x y, w, s, hs => by
    simp only [XT.nmp, List.mem_append] at hs
    rcases hs with e | e | e
    · exact nm1_sz h w.1 s e
    · exact nmp_sz x w.2.2.1 s e
    · exact nmp_sz y w.2.2.2 s e
  | .t h x y q, w, s, hs => by
    simp only [XT.nmp, List.mem_append] at hs
    rcases hs with e | e | e | e
    · exact nm1_sz h w.1 s e
    · exact nmp_sz x w.2.2.1 s e
    · exact nmp_sz y w.2.2.2.1 s e
    · exact nmp_sz q w.2.2.2.2 s e
theorem names_sz (t : XT) (w : WM t) : ∀ s ∈ insAll [] t.nms, s.length ≤ 64 := by
  intro s hs
  rw [nms_nmp, mem_insAll] at hs
  rcases hs with e | e
  · cases e
  · exact nmp_sz t w s e
/-- Two operands side by side. -/
abbrev R12 (h1 h2 : XH) (A1 : Option Addr) (n1 c1 : Nat) (A2 : Option Addr) (n2 c2 : Nat) (T : TypeId) : Obj := .cells #[.int .i64 h1.k, .int .i64 h1.f, .int .i64 h1.l, .int .i64 h1.c, .string h1.s, .slice A1 n1 c1, .int .i64 h2.k, .int .i64 h2.f, .int .i64 h2.l, .int .i64 h2.c, .string h2.s, .slice A2 n2 c2] T
theorem pair_cells {w : World} {g : Nat} {h1 h2 : XH} {A1 : Option Addr} {n1 c1 : Nat} {A2 : Option Addr} {n2 c2 : Nat} {T : TypeId} (h : w.heap[g]? = some (R12 h1 h2 A1 n1 c1 A2 n2 c2 T)) : XC w g 0 h1 A1 n1 c1 ∧ XC w g (0 + 6) h2 A2 n2 c2 := by
  unfold XC
  refine ⟨⟨?_, ?_, ?_, ?_, ?_, ?_⟩, ?_, ?_, ?_, ?_, ?_, ?_⟩ <;> rw [Lib.cell_of_heap h] <;> rfl
end Go.Proofs.Ytljiiniocnljmaa

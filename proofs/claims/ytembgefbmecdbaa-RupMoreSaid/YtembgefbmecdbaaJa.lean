/-
  Plain mathematics of unit propagation: what follows from clauses under assumptions, that more clauses or more assumptions make no less follow, and when nothing contradictory follows; nothing here speaks of the program.
-/
import Derived.Test.YtembgefbmecdbaaKa
namespace Go.Proofs.Ytembgefbmecdbaa
/-- What unit propagation makes true: the assumptions, and a clause's literal where all its others are made false. -/
inductive Up (cs : List (List Int)) (A : Int → Prop) : Int → Prop
  | given (x : Int) (h : A x) : Up cs A x
  | unit (c : List Int) (x : Int) (hc : c ∈ cs) (hx : x ∈ c) (h : ∀ y, y ∈ c → y ≠ x → Up cs A (-y)) : Up cs A x
/-- It fails: a clause is made false, or a literal and its opposite are made true. -/
def Fails (cs : List (List Int)) (A : Int → Prop) : Prop := (∃ c, c ∈ cs ∧ ∀ y, y ∈ c → Up cs A (-y)) ∨ ∃ x, Up cs A x ∧ Up cs A (-x)
theorem Up.more {cs ds : List (List Int)} {A B : Int → Prop} (hc : ∀ c, c ∈ cs → c ∈ ds) (hA : ∀ x, A x → Up ds B x) {x : Int} (h : Up cs A x) : Up ds B x := by
  induction h with
  | given x h => exact hA x h
  | unit c x hm hx _ ih => exact .unit c x (hc c hm) hx ih
theorem Fails.more {cs ds : List (List Int)} {A B : Int → Prop} (hc : ∀ c, c ∈ cs → c ∈ ds) (hA : ∀ x, A x → Up ds B x) (h : Fails cs A) : Fails ds B := by
  rcases h with ⟨c, hm, hy⟩ | ⟨x, h1, h2⟩
  · exact Or.inl ⟨c, hc c hm, fun y hyc => (hy y hyc).more hc hA⟩
  · exact Or.inr ⟨x, h1.more hc hA, h2.more hc hA⟩
/-- With the same clauses, and assumptions that mean the same, the same follows. -/
theorem Fails.same {cs : List (List Int)} {A B : Int → Prop} (h : ∀ x, A x ↔ B x) : Fails cs A ↔ Fails cs B :=
  ⟨fun k => k.more (fun _ => id) fun x hx => .given x ((h x).1 hx), fun k => k.more (fun _ => id) fun x hx => .given x ((h x).2 hx)⟩
/-- Where a set of true literals holds the assumptions, no literal beside its opposite, and for each clause a literal of its own or two different ones that are not false, only its literals are made true: propagation does not fail. -/
theorem not_Fails {cs : List (List Int)} {A T : Int → Prop} (hA : ∀ x, A x → T x) (hT : ∀ x, T x → ¬ T (-x))
    (hc : ∀ c, c ∈ cs → (∃ x, x ∈ c ∧ T x) ∨ ∃ x y, x ∈ c ∧ y ∈ c ∧ x ≠ y ∧ ¬ T (-x) ∧ ¬ T (-y)) : ¬ Fails cs A := by
  have up : ∀ x, Up cs A x → T x := fun x hx => by
    induction hx with
    | given x h => exact hA x h
    | unit c x hm hx _ ih =>
      rcases hc c hm with ⟨y, hy, ht⟩ | ⟨y, z, hy, hz, hne, h1, h2⟩
      · by_cases e : y = x
        · exact e ▸ ht
        · exact absurd (ih y hy e) (hT y ht)
      · by_cases e : y = x
        · exact absurd (ih z hz fun e' => hne (e.trans e'.symm)) h2
        · exact absurd (ih y hy e) h1
  rintro (⟨c, hm, hy⟩ | ⟨x, h1, h2⟩)
  · rcases hc c hm with ⟨x, hx, ht⟩ | ⟨x, _, hx, _, _, h1, _⟩
    · exact hT x ht (up _ (hy x hx))
    · exact h1 (up _ (hy x hx))
  · exact hT x (up x h1) (up _ h2)
/-- What is made true beyond a set that follows already follows: steps can be taken one after the other. -/
theorem Up.step {cs : List (List Int)} {A : Int → Prop} {T : Int → Prop} (hT : ∀ x, T x → Up cs A x) {x : Int} (h : Up cs T x) : Up cs A x := h.more (fun _ => id) hT
end Go.Proofs.Ytembgefbmecdbaa

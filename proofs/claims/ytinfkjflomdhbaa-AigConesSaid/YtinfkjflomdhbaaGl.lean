/-
  Acts, plain: what a list of acts makes of a graph, and what the reference says of it.
-/
import Derived.Test.YtinfkjflomdhbaaGa
namespace Go.Proofs.Ytinfkjflomdhbaa
structure AC where
  k : Int
  a : Int
  b : Int
  c : Int
/-- A number modulo how many, as the reference reckons it. -/
def atI (n : Nat) (i : Int) : Int := if i.tmod n < 0 then i.tmod n + n else i.tmod n
theorem atI_lt {n : Nat} (hn : 0 < n) (i : Int) : 0 ≤ atI n i ∧ atI n i < n := by
  have h1 := Int.tmod_lt_of_pos i (b := (n : Int)) (by omega)
  have h2 : -(n : Int) < i.tmod n := by
    have := Int.lt_tmod_of_pos i (b := (n : Int)) (by omega)
    omega
  unfold atI
  split <;> omega
def opn (L : List Nat) (i : Int) : Nat := if L.length = 0 then 0 else L.getD (atI L.length i).toNat 0
theorem opn_mem {L : List Nat} {N : Nat} (hN : 0 < N) (h : ∀ a ∈ L, a / 2 < N) (i : Int) : opn L i / 2 < N := by
  unfold opn
  split
  · simpa using hN
  · have h1 := atI_lt (n := L.length) (by omega) i
    rw [List.getD_eq_getElem?_getD, List.getElem?_eq_getElem (by omega)]
    exact h _ (List.getElem_mem _)
def gateA (F : List PN) (k : Int) (a b c : Nat) : List PN × Nat :=
  if k = 0 then (F ++ [(0, 0)], 2 * F.length) else if k = 1 then andF F a b else if k = 2 then orF F a b else if k = 3 then xorF F a b else if k = 4 then muxF F c a b else (F, nt a)
structure SG where
  F : List PN
  L : List Nat
def stA (s : SG) (x : AC) : SG := ⟨(gateA s.F x.k (opn s.L x.a) (opn s.L x.b) (opn s.L x.c)).1, s.L ++ [(gateA s.F x.k (opn s.L x.a) (opn s.L x.b) (opn s.L x.c)).2]⟩
def bdA (l : List AC) : SG := l.foldl stA ⟨[(0, 0)], []⟩
theorem bdA_snoc (l : List AC) (x : AC) : bdA (l ++ [x]) = stA (bdA l) x := by unfold bdA; rw [List.foldl_append]; rfl
/-- What an act's value is, of the operands' and of the next input. -/
def actv (k : Int) (a b c i : Bool) : Bool :=
  if k = 0 then i else if k = 1 then (a && b) else if k = 2 then (a || b) else if k = 3 then (a != b) else if k = 4 then (if c then a else b) else !a
structure GA (F : List PN) (k : Int) (r : List PN × Nat) : Prop where
  wf : WF r.1
  pre : F <+: r.1
  len : r.1.length ≤ F.length + 3
  lit : r.2 / 2 < r.1.length
  cn : cnt r.1 = cnt F + if k = 0 then 1 else 0
theorem GS.ga {j : Nat} {k : Int} {F : List PN} {r : List PN × Nat} (h : GS j F r) (hj : j ≤ 3) (hk : k ≠ 0) : GA F k r := ⟨h.wf, h.pre, by have := h.len; omega, h.lit, by rw [if_neg hk]; exact h.cn⟩
theorem gateA_ok {F : List PN} (h : WF F) (k : Int) {a b c : Nat} (ha : a / 2 < F.length) (hb : b / 2 < F.length) (hc : c / 2 < F.length) :
    GA F k (gateA F k a b c) ∧ ∀ ins, VL (gateA F k a b c).1 ins (gateA F k a b c).2 = actv k (VL F ins a) (VL F ins b) (VL F ins c) (ins.getD (cnt F) false) := by
  unfold gateA actv
  by_cases k0 : k = 0
  · simp only [if_pos k0]
    refine ⟨⟨h.input, List.prefix_append .., by simp, by simp, ?_⟩, fun ins => input_val F h.pos ins⟩
    rw [cnt_snoc _ _ h.pos, if_pos rfl, if_pos k0]
  simp only [if_neg k0]
  by_cases k1 : k = 1
  · simp only [if_pos k1]
    obtain ⟨h1, h2⟩ := andF_ok h ha hb
    exact ⟨h1.ga (by omega) k0, h2⟩
  simp only [if_neg k1]
  by_cases k2 : k = 2
  · simp only [if_pos k2]
    obtain ⟨h1, h2⟩ := orF_ok h ha hb
    exact ⟨h1.ga (by omega) k0, h2⟩
  simp only [if_neg k2]
  by_cases k3 : k = 3
  · simp only [if_pos k3]
    obtain ⟨h1, h2⟩ := xorF_ok h ha hb
    exact ⟨h1.ga (by omega) k0, h2⟩
  simp only [if_neg k3]
  by_cases k4 : k = 4
  · simp only [if_pos k4]
    obtain ⟨h1, h2⟩ := muxF_ok h hc ha hb
    exact ⟨h1.ga (by omega) k0, h2⟩
  simp only [if_neg k4]
  exact ⟨⟨h, List.prefix_refl _, by simp, by show nt a / 2 < _; rw [nt_div]; exact ha, by rw [if_neg k0]; rfl⟩, fun ins => VL_nt F ins a ha⟩
structure SOK (s : SG) (n : Nat) : Prop where
  wf : WF s.F
  ln : s.L.length = n
  fl : s.F.length ≤ 3 * n + 1
  lt : ∀ a ∈ s.L, a / 2 < s.F.length
theorem SOK.new : SOK ⟨[(0, 0)], []⟩ 0 := ⟨WF.new, rfl, by simp, fun _ h => by simp at h⟩
theorem SOK.op {s : SG} {n : Nat} (h : SOK s n) (i : Int) : opn s.L i / 2 < s.F.length := opn_mem h.wf.pos h.lt i
theorem SOK.ga {s : SG} {n : Nat} (h : SOK s n) (x : AC) : GA s.F x.k (gateA s.F x.k (opn s.L x.a) (opn s.L x.b) (opn s.L x.c)) := (gateA_ok h.wf x.k (h.op _) (h.op _) (h.op _)).1
theorem SOK.step {s : SG} {n : Nat} (h : SOK s n) (x : AC) : SOK (stA s x) (n + 1) := by
  have g := h.ga x
  refine ⟨g.wf, by simp [stA, h.ln], by have := g.len; have := h.fl; show (gateA _ _ _ _ _).1.length ≤ _; omega, fun a ha => ?_⟩
  show a / 2 < (gateA _ _ _ _ _).1.length
  have ha : a ∈ s.L ++ [(gateA s.F x.k (opn s.L x.a) (opn s.L x.b) (opn s.L x.c)).2] := ha
  rcases List.mem_append.1 ha with e | e
  · exact Nat.lt_of_lt_of_le (h.lt a e) g.pre.length_le
  · rw [List.mem_singleton.1 e]; exact g.lit
theorem bdA_ok (l : List AC) : SOK (bdA l) l.length := by
  have : ∀ (l : List AC) (s : SG) (n : Nat), SOK s n → SOK (l.foldl stA s) (n + l.length) := by
    intro l
    induction l with
    | nil => intro s n h; exact h
    | cons x l ih =>
      intro s n h
      rw [List.foldl_cons, List.length_cons, show n + (l.length + 1) = n + 1 + l.length by omega]
      exact ih _ _ (h.step x)
  have h := this l _ 0 SOK.new
  rw [Nat.zero_add] at h
  exact h
/-- A further act leaves what was made. -/
theorem bdA_pre (l m : List AC) : (bdA l).F <+: (bdA (l ++ m)).F ∧ (bdA l).L <+: (bdA (l ++ m)).L := by
  have : ∀ (m l : List AC), (bdA l).F <+: (bdA (l ++ m)).F ∧ (bdA l).L <+: (bdA (l ++ m)).L := by
    intro m
    induction m with
    | nil => intro l; rw [List.append_nil]; exact ⟨List.prefix_refl _, List.prefix_refl _⟩
    | cons x m ih =>
      intro l
      have h1 := ih (l ++ [x])
      rw [List.append_assoc, List.singleton_append] at h1
      have h2 : (bdA l).F <+: (bdA (l ++ [x])).F ∧ (bdA l).L <+: (bdA (l ++ [x])).L := by
        rw [bdA_snoc]
        exact ⟨((bdA_ok l).ga x).pre, List.prefix_append ..⟩
      exact ⟨h2.1.trans h1.1, h2.2.trans h1.2⟩
  exact this m l
/-- The reference's values. -/
def opv (o : List Bool) (i : Int) : Bool := if o.length = 0 then false else o.getD (atI o.length i).toNat false
def stR (ins : List Bool) (s : List Bool × Nat) (x : AC) : List Bool × Nat :=
  (s.1 ++ [actv x.k (opv s.1 x.a) (opv s.1 x.b) (opv s.1 x.c) (ins.getD s.2 false)], if x.k = 0 then s.2 + 1 else s.2)
def refR (l : List AC) (ins : List Bool) : List Bool × Nat := l.foldl (stR ins) ([], 0)
theorem refR_snoc (l : List AC) (x : AC) (ins : List Bool) : refR (l ++ [x]) ins = stR ins (refR l ins) x := by unfold refR; rw [List.foldl_append]; rfl
theorem refR_len (l : List AC) (ins : List Bool) : (refR l ins).1.length = l.length := by
  have : ∀ (l : List AC) (s : List Bool × Nat), (l.foldl (stR ins) s).1.length = s.1.length + l.length := by
    intro l
    induction l with
    | nil => intro s; rfl
    | cons x l ih => intro s; rw [List.foldl_cons, ih]; simp [stR]; omega
  have h := this l ([], 0)
  rw [List.length_nil, Nat.zero_add] at h
  exact h
structure SR (s : SG) (ins : List Bool) (r : List Bool × Nat) : Prop where
  v : r.1 = s.L.map (VL s.F ins)
  n : r.2 = cnt s.F
theorem opv_ok {s : SG} {ins : List Bool} {r : List Bool × Nat} (h : SR s ins r) (i : Int) : opv r.1 i = VL s.F ins (opn s.L i) := by
  unfold opv opn
  rw [h.v, List.length_map]
  split
  · rw [VL_no]
  · have h1 := atI_lt (n := s.L.length) (by omega) i
    rw [List.getD_eq_getElem?_getD, List.getD_eq_getElem?_getD, List.getElem?_map, List.getElem?_eq_getElem (by omega)]
    rfl
theorem SR.step {s : SG} {n : Nat} {ins : List Bool} {r : List Bool × Nat} (h : SR s ins r) (hs : SOK s n) (x : AC) : SR (stA s x) ins (stR ins r x) := by
  obtain ⟨g, hv⟩ := gateA_ok hs.wf x.k (hs.op x.a) (hs.op x.b) (hs.op x.c)
  refine ⟨?_, ?_⟩
  · show _ ++ [_] = List.map _ (_ ++ [_])
    rw [List.map_append, List.map_singleton, h.n, opv_ok h, opv_ok h, opv_ok h]
    congr 1
    · rw [h.v]
      exact List.map_congr_left fun a ha => (VL_pre g.pre ins a (hs.lt a ha)).symm
    · rw [← hv ins]; rfl
  · show (if x.k = 0 then r.2 + 1 else r.2) = cnt (gateA _ _ _ _ _).1
    rw [g.cn, h.n]
    split <;> rfl
theorem refR_ok (l : List AC) (ins : List Bool) : SR (bdA l) ins (refR l ins) := by
  have : ∀ (l : List AC) (s : SG) (n : Nat) (r : List Bool × Nat), SOK s n → SR s ins r → SR (l.foldl stA s) ins (l.foldl (stR ins) r) := by
    intro l
    induction l with
    | nil => intro s n r _ h; exact h
    | cons x l ih => intro s n r hs h; exact ih _ _ _ (hs.step x) (h.step hs x)
  exact this l _ 0 _ SOK.new ⟨rfl, rfl⟩
/-- Kinds reduced to six. -/
def nk (k : Int) : Int := (k.tmod 6 + 6).tmod 6
theorem nk_lt (k : Int) : 0 ≤ nk k ∧ nk k < 6 := by
  have h1 := Int.tmod_lt_of_pos k (b := 6) (by decide)
  have h2 := Int.lt_tmod_of_pos k (b := 6) (by decide)
  have h3 := Int.tmod_lt_of_pos (k.tmod 6 + 6) (b := 6) (by decide)
  have h4 := Int.tmod_nonneg 6 (show 0 ≤ k.tmod 6 + 6 by omega)
  exact ⟨h4, h3⟩
def plainA (l : List AC) : List AC := (l.take 60).map fun x => ⟨nk x.k, x.a, x.b, x.c⟩
theorem plainA_len (l : List AC) : (plainA l).length ≤ 60 := by simp [plainA]; omega
theorem plainA_k (l : List AC) : ∀ x ∈ plainA l, 0 ≤ x.k ∧ x.k < 6 := fun x hx => by
  unfold plainA at hx
  obtain ⟨y, _, rfl⟩ := List.mem_map.1 hx
  exact nk_lt _
end Go.Proofs.Ytinfkjflomdhbaa

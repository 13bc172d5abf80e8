/-
  The state of a solver of two variables and at most one clause of two literals, and how it lies in memory; isTrue, isFalse, depth.
-/
import Derived.Test.YtpkmpbnedoldlaaGreatS1
namespace Go.Proofs.YtpkmpbnedoldlaaGreat
open Go.RowKit Go.Lib
/-- The state: trail, starts, head; the values of the four literals; levels, reasons of the two variables; heap and places; whether the clause is there, its literals, the other literals in the two watches. -/
structure St where
  tr : List Int
  ss : List Int
  hd : Nat
  v0 : Int
  v1 : Int
  v2 : Int
  v3 : Int
  l0 : Int
  l1 : Int
  r0 : Bool
  r1 : Bool
  h0 : Int
  h1 : Int
  hn : Nat
  p0 : Int
  p1 : Int
  ws : Bool
  c0 : Int
  c1 : Int
  o0 : Int
  o2 : Int
  eb : Bool := false
  E : Nat := 0
  ec : Array Value := #[]
/-- Where it all lies. -/
structure Bk where
  tv : Value
  sv : Value
  w0 : Value
  w2 : Value
  vb : Nat
  lb : Nat
  rb : Nat
  wb : Nat
  hb : Nat
  pb : Nat
  sb : Nat
  cb : Nat
  cl : Nat
  xa : Value
  xb : Value
  xc : Value
  xd : Value
  xe : Value
  xf : Value
abbrev sl (b n : Nat) : Value := .slice (some ⟨b, 0, none⟩) n n
abbrev rp (b : Bool) (c : Nat) : Value := if b then .pointer (some ⟨c, 0, none⟩) else .pointer none
abbrev pp (p : Nat) : Value := .pointer (some ⟨p, 0, none⟩)
abbrev iz (k : Int) : Value := .int .i64 k
abbrev i8 (k : Int) : Value := .int .i8 k
/-- The solver's own block. -/
abbrev sc (k : Bk) (s : St) : Array Value := #[k.tv, k.sv, iz s.hd, sl k.vb 4, sl k.lb 2, sl k.rb 2, sl k.wb 4, k.xa, iz 2000, .slice (some ⟨k.hb, 0, none⟩) s.hn 2, sl k.pb 2, k.xb, k.xc, sl k.sb 2, k.xd, k.xe, k.xf, .slice none 0 0, iz 0, .bool false]
structure SIx (B : Nat) (w : World) (p : Nat) (k : Bk) (s : St) : Prop where
  pB : B ≤ p
  low : B ≤ k.vb ∧ B ≤ k.lb ∧ B ≤ k.rb ∧ B ≤ k.wb ∧ B ≤ k.hb ∧ B ≤ k.pb
  blk : CB w p (sc k s) 60
  vab : CB w k.vb #[i8 s.v0, i8 s.v1, i8 s.v2, i8 s.v3] 112
  leb : CB w k.lb #[iz s.l0, iz s.l1] 3
  reb : CB w k.rb #[rp s.r0 k.cb, rp s.r1 k.cb] 75
  wab : CB w k.wb #[k.w0, .slice none 0 0, k.w2, .slice none 0 0] 106
  heb : CB w k.hb #[iz s.h0, iz s.h1] 3
  plb : CB w k.pb #[iz s.p0, iz s.p1] 3
  sab : CB w k.sb #[.bool false, .bool false] 4
  tro : w.ownsRow B 81 1 k.tv s.tr.length (s.tr.map lv)
  sso : w.ownsRow B 3 1 k.sv s.ss.length (s.ss.map iz)
  ap : k.lb ≠ k.hb ∧ k.lb ≠ k.pb ∧ k.hb ≠ k.pb
  aps : ∀ g, k.sv.ownBlock = some g → g ≠ k.lb ∧ g ≠ k.hb ∧ g ≠ k.pb
  now : s.ws = false → k.w0 = .slice none 0 0 ∧ k.w2 = .slice none 0 0
  cls : s.ws = true → B ≤ k.cb ∧ B ≤ k.cl ∧ CB w k.cb #[sl k.cl 2, iz 0, iz 0, .bool false] 92 ∧ CB w k.cl #[lv s.c0, lv s.c1] 81 ∧ (∀ g, k.tv.ownBlock = some g → g ≠ k.cl) ∧ w.ownsRow B 109 2 k.w0 1 [pp k.cb, lv s.o0] ∧ w.ownsRow B 109 2 k.w2 1 [pp k.cb, lv s.o2] ∧ ∀ g, k.w0.ownBlock = some g → k.w2.ownBlock ≠ some g
  sm : s.tr.length ≤ 2 ∧ s.ss.length ≤ 2 ∧ s.hn ≤ 2 ∧ s.hd ≤ 2
  exb : s.eb = true → CB w s.E s.ec 32
def St.v (s : St) : Nat → Int
  | 0 => s.v0
  | 1 => s.v1
  | 2 => s.v2
  | _ => s.v3
theorem own_shape' {w : World} {B n : Nat} {e : TypeId} {sz : Nat} {v : Value} {xs : List Value} (h : w.ownsRow B e sz v n xs) : ∃ A c, v = .slice A n c := by
  rcases h.2 with ⟨rfl, hn⟩ | ⟨g, cap, cur, rfl, _⟩
  · exact ⟨none, 0, by rw [hn]⟩
  · exact ⟨_, _, rfl⟩
section
variable {B p : Nat} {k : Bk} {s : St} (w : World)
theorem isTru_t (h : SIx B w p k s) (l : Nat) (hl : l < 4) : Calls Tryz.prog 43 #[pp p, lv l] w (RW w (.bool (s.v l == 1))) := by
  have b3 := h.blk.c 3
  have bl := lt_of_get h.blk
  have vl := lt_of_get h.vab
  match l, hl with
  | 0, _ =>
    have v0 := h.vab.c 0
    clear h
    go_enter Tryz.func43, Tryz.ntmps43
    go_wp2_with fail
    go_ret
    exact ⟨rfl, rfl⟩
  | 1, _ =>
    have v0 := h.vab.c 1
    clear h
    go_enter Tryz.func43, Tryz.ntmps43
    go_wp2_with fail
    go_ret
    exact ⟨rfl, rfl⟩
  | 2, _ =>
    have v0 := h.vab.c 2
    clear h
    go_enter Tryz.func43, Tryz.ntmps43
    go_wp2_with fail
    go_ret
    exact ⟨rfl, rfl⟩
  | 3, _ =>
    have v0 := h.vab.c 3
    clear h
    go_enter Tryz.func43, Tryz.ntmps43
    go_wp2_with fail
    go_ret
    exact ⟨rfl, rfl⟩
theorem isFalse_t (h : SIx B w p k s) (l : Nat) (hl : l < 4) : Calls Tryz.prog 54 #[pp p, lv l] w (RW w (.bool (s.v l == -1))) := by
  have b3 := h.blk.c 3
  have bl := lt_of_get h.blk
  have vl := lt_of_get h.vab
  match l, hl with
  | 0, _ =>
    have v0 := h.vab.c 0
    clear h
    go_enter Tryz.func54, Tryz.ntmps54
    go_wp2_with fail
    go_ret
    exact ⟨rfl, rfl⟩
  | 1, _ =>
    have v0 := h.vab.c 1
    clear h
    go_enter Tryz.func54, Tryz.ntmps54
    go_wp2_with fail
    go_ret
    exact ⟨rfl, rfl⟩
  | 2, _ =>
    have v0 := h.vab.c 2
    clear h
    go_enter Tryz.func54, Tryz.ntmps54
    go_wp2_with fail
    go_ret
    exact ⟨rfl, rfl⟩
  | 3, _ =>
    have v0 := h.vab.c 3
    clear h
    go_enter Tryz.func54, Tryz.ntmps54
    go_wp2_with fail
    go_ret
    exact ⟨rfl, rfl⟩
theorem depth_t (h : SIx B w p k s) : Calls Tryz.prog 38 #[pp p] w (RW w (.int .i64 (s.ss.length : Int))) := by
  have b1 := h.blk.c 1
  have bl := lt_of_get h.blk
  have hs := h.sm.2.1
  obtain ⟨A, c, e⟩ := own_shape' h.sso
  rw [show (sc k s)[1]? = some k.sv from rfl, e] at b1
  obtain ⟨n, hn⟩ : ∃ n, s.ss.length = n := ⟨_, rfl⟩
  rw [hn] at b1 hs ⊢
  clear h e hn
  go_enter Tryz.func38, Tryz.ntmps38
  go_wp2_with fail
  go_ret
  exact ⟨rfl, rfl⟩
end
end Go.Proofs.YtpkmpbnedoldlaaGreat

/-
  The walk of the statement SrcPlaces, at every text, offset and position.
-/
import Derived.Test.YtegoldihcchfdaaTd1
import Derived.Test.YtegoldihcchfdaaTd2
import Derived.Test.YtegoldihcchfdaaTd3
import Derived.Test.YtegoldihcchfdaaTd4
import Derived.Test.YtegoldihcchfdaaTd5
import Derived.Test.YtegoldihcchfdaaTd6
namespace Go.Proofs.Ytegoldihcchfdaa
open Go.RowKit
theorem Pl_short (b : ByteArray) (o p0 l c : Int) (w : World) (hb : b.size ≤ 2000) : Calls Try.prog 4 #[.string b, .int .i64 o, pv p0 l c] w (RV w (.bool true)) := by
  have ho : o < 0 ∨ (b.size : Int) < o ∨ ∃ k : Nat, o = (k : Int) ∧ k ≤ b.size := by
    by_cases h1 : o < 0
    · exact .inl h1
    · by_cases h2 : (b.size : Int) < o
      · exact .inr (.inl h2)
      · exact .inr (.inr ⟨o.toNat, by omega, by omega⟩)
  have hp : hasB b l = false ∨ ∃ j : Nat, l = (j : Int) + 1 ∧ j < nOf b := by
    cases h : hasB b l with
    | false => exact .inl rfl
    | true =>
      have h1 : 1 ≤ l ∧ l ≤ (nOf b : Int) := by unfold hasB at h; simpa using h
      exact .inr ⟨(l - 1).toNat, by omega, by omega⟩
  rcases hp with hp | ⟨j, rfl, hj⟩
  · rcases ho with ho | ho | ⟨k, rfl, hk⟩
    · exact Pl_san b o ho p0 l c hp w hb
    · exact Pl_sbn b o ho p0 l c hp w hb
    · exact Pl_scn b k hk p0 l c hp w hb
  · by_cases hp : 1 ≤ c ∧ c ≤ (eOf b j : Int) - (sOf b j : Int) + 1
    · rcases ho with ho | ho | ⟨k, rfl, hk⟩
      · exact Pl_say b o ho p0 j c hj hp w hb
      · exact Pl_sby b o ho p0 j c hj hp w hb
      · exact Pl_scy b k hk p0 j c hj hp w hb
    · rcases ho with ho | ho | ⟨k, rfl, hk⟩
      · exact Pl_sam b o ho p0 j c hj hp w hb
      · exact Pl_sbm b o ho p0 j c hj hp w hb
      · exact Pl_scm b k hk p0 j c hj hp w hb
theorem Pl_long (s b : ByteArray) (hl : 2000 < s.size) (hbe : s.extract 0 2000 = b) (o p0 l c : Int) (w : World) (hb : b.size ≤ 2000) : Calls Try.prog 4 #[.string s, .int .i64 o, pv p0 l c] w (RV w (.bool true)) := by
  have ho : o < 0 ∨ (b.size : Int) < o ∨ ∃ k : Nat, o = (k : Int) ∧ k ≤ b.size := by
    by_cases h1 : o < 0
    · exact .inl h1
    · by_cases h2 : (b.size : Int) < o
      · exact .inr (.inl h2)
      · exact .inr (.inr ⟨o.toNat, by omega, by omega⟩)
  have hp : hasB b l = false ∨ ∃ j : Nat, l = (j : Int) + 1 ∧ j < nOf b := by
    cases h : hasB b l with
    | false => exact .inl rfl
    | true =>
      have h1 : 1 ≤ l ∧ l ≤ (nOf b : Int) := by unfold hasB at h; simpa using h
      exact .inr ⟨(l - 1).toNat, by omega, by omega⟩
  rcases hp with hp | ⟨j, rfl, hj⟩
  · rcases ho with ho | ho | ⟨k, rfl, hk⟩
    · exact Pl_lan s b hl hbe o ho p0 l c hp w hb
    · exact Pl_lbn s b hl hbe o ho p0 l c hp w hb
    · exact Pl_lcn s b hl hbe k hk p0 l c hp w hb
  · by_cases hp : 1 ≤ c ∧ c ≤ (eOf b j : Int) - (sOf b j : Int) + 1
    · rcases ho with ho | ho | ⟨k, rfl, hk⟩
      · exact Pl_lay s b hl hbe o ho p0 j c hj hp w hb
      · exact Pl_lby s b hl hbe o ho p0 j c hj hp w hb
      · exact Pl_lcy s b hl hbe k hk p0 j c hj hp w hb
    · rcases ho with ho | ho | ⟨k, rfl, hk⟩
      · exact Pl_lam s b hl hbe o ho p0 j c hj hp w hb
      · exact Pl_lbm s b hl hbe o ho p0 j c hj hp w hb
      · exact Pl_lcm s b hl hbe k hk p0 j c hj hp w hb
theorem SrcPlaces_all (s : ByteArray) (o p0 l c : Int) (w : World) : Calls Try.prog 4 #[.string s, .int .i64 o, pv p0 l c] w (RV w (.bool true)) := by
  by_cases h : 2000 < s.size
  · exact Pl_long s _ h rfl o p0 l c w (cut_size s h)
  · exact Pl_short s o p0 l c w (by omega)
end Go.Proofs.Ytegoldihcchfdaa

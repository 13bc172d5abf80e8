/-
  The reference's Depth; the names of a tree, plain.
-/
import Derived.Test.YtljiiniocnljmaaAe
namespace Go.Proofs.Ytljiiniocnljmaa
open Go.RowKit Go.Lib
def mxd (l : List XT) : Nat := l.foldl (fun m a => max m (a.dep + 1)) 0
theorem mxd_args (t : XT) : mxd t.args = t.dep := by cases t <;> simp [mxd, XT.args, XT.dep] <;> omega
theorem mxd_snoc (l : List XT) (k : Nat) (hk : k < l.length) : mxd (l.take (k + 1)) = max (mxd (l.take k)) (l[k].dep + 1) := by
  unfold mxd
  rw [← List.take_append_getElem hk, List.foldl_append]; rfl
theorem mxd_le (l : List XT) (d : Nat) (h : ∀ a ∈ l, a.dep < d) : mxd l ≤ d := by
  have : ∀ (l : List XT) (m : Nat), m ≤ d → (∀ a ∈ l, a.dep < d) → l.foldl (fun m a => max m (a.dep + 1)) m ≤ d := by
    intro l
    induction l with
    | nil => intro m hm _; exact hm
    | cons x l ih => intro m hm h; exact ih _ (by have := h x List.mem_cons_self; show max m (x.dep + 1) ≤ d; omega) fun a ha => h a (List.mem_cons_of_mem _ ha)
  exact this l 0 (Nat.zero_le _) h
def RDo (t : XT) : Prop := ∀ (A : Option Addr) (c : Nat) (w : World), XQ w (· < w.heap.size) t A → t.dep ≤ 900 → Calls Try.prog 12 #[xv t.h A t.args.length c] w (RV w (.int .i64 ((t.dep : Int) + 1)))
set_option maxRecDepth 100000 in
set_option maxHeartbeats 1600000 in
theorem rdep_1 (t : XT) (hE : ∀ a ∈ t.args, RDo a) : RDo t := by
  intro A c w hX hd
  have h3 := t.args_le
  have hmd := mxd_args t
  obtain ⟨n, hn⟩ : ∃ n, t.args.length = n := ⟨_, rfl⟩
  rw [hn] at h3 ⊢
  have hb0 := (Below.refl w.heap.size w).alloc (Nat.le_refl _) (.cells #[.int .i64 t.h.k, .int .i64 t.h.f, .int .i64 t.h.l, .int .i64 t.h.c, .string t.h.s, .slice A n c] 32)
  have hM0 := BX.new w 32 t.h A n c
  obtain ⟨gb, hgb⟩ : ∃ g, w.heap.size = g := ⟨_, rfl⟩
  obtain ⟨w1, hw1⟩ : ∃ W, w.alloc (.cells #[.int .i64 t.h.k, .int .i64 t.h.f, .int .i64 t.h.l, .int .i64 t.h.c, .string t.h.s, .slice A n c] 32) = W := ⟨_, rfl⟩
  rw [hgb, hw1] at hM0
  rw [hw1] at hb0
  have hX1 := hX.over (w' := w1) (G := (· < w.heap.size)) (fun b hb => hb0.block b hb) (fun b hb => hb)
  unfold RDo RV at hE
  replace hE := Lib.hid hE
  replace hX1 := Lib.hid hX1
  replace hb0 := Lib.hid hb0
  replace hM0 := Lib.hid hM0
  replace hn := Lib.hid hn
  replace hmd := Lib.hid hmd
  replace hw1 := Lib.hid hw1
  clear hX
  go_enter Try.func12, Try.ntmps12
  go_wp2_with fail
  go_loopw [3, 4] (fun nv iv wr => ∃ (k : Nat), k ≤ n ∧ nv = .int .i64 ((mxd (t.args.take k) : Nat) : Int) ∧ iv = .int .i64 (k : Int) ∧ XQ wr (· < w.heap.size) t A ∧ BX wr gb 32 t.h A n c ∧ Below w.heap.size w wr) (fun _ iv _ => n - (RowKit.intOf iv).toNat)
  case atStart => exact ⟨0, Nat.zero_le _, rfl, rfl, by rw [hw1.out]; exact hX1.out, by rw [hw1.out]; exact hM0.out, by rw [hw1.out]; exact hb0.out⟩
  case round =>
    obtain ⟨k, hk, rfl, rfl, hXk, hMk, hKk⟩ := hrel
    clear hX1 hM0 hb0 hw1
    obtain ⟨m0, m1, m2, m3, m4, m5⟩ := hMk.all
    have ml := hMk.lt
    by_cases hlt : k < n
    · have hw1 : IntKind.i64.wrap ((k : Int) + 1) = (k : Int) + 1 := IntWalk.i64_in _ (by omega)
      have hkl : k < t.args.length := by rw [hn.out]; exact hlt
      obtain ⟨b, o, rfl, hb, Aj, cj, hxc, hxq⟩ := hXk.get k hkl
      have hda := XT.dep_arg (List.getElem_mem hkl)
      have hC := fun W (r : XQ W (· < W.heap.size) t.args[k] Aj) => hE.out t.args[k] (List.getElem_mem hkl) Aj cj W r (by omega)
      have hmx := mxd_snoc t.args k hkl
      obtain ⟨a, ha⟩ : ∃ a, t.args[k] = a := ⟨_, rfl⟩
      rw [ha] at hC hxc hxq hmx hda
      have hmle : mxd (t.args.take k) ≤ 900 := Nat.le_trans (mxd_le _ t.dep fun x hx => XT.dep_arg (List.mem_of_mem_take hx)) hd
      obtain ⟨M, hM⟩ : ∃ M, mxd (t.args.take k) = M := ⟨_, rfl⟩
      rw [hM] at hmx hmle ⊢
      obtain ⟨x0, x1, x2, x3, x4, x5⟩ := hxc
      have hz : w.heap.size ≤ wr.heap.size := hKk.size
      have hxq2 := hxq.over (w' := wr) (G := (· < wr.heap.size)) (fun b hb => rfl) (fun b hb => Nat.lt_of_lt_of_le hb hz)
      obtain ⟨D, hD⟩ : ∃ D : Int, (a.dep : Int) + 1 = D := ⟨_, rfl⟩
      rw [hD] at hC
      replace hC := Lib.hid hC
      replace hxq2 := Lib.hid hxq2
      replace hXk := Lib.hid hXk
      replace hMk := Lib.hid hMk
      replace hKk := Lib.hid hKk
      replace hmx := Lib.hid hmx
      clear hxq ha hM
      go_wp2_with fail
      (with_reducible refine (hC.out _ hxq2.out).mono ?_)
      rintro e u1 ⟨rfl, hb1⟩
      have hX1 := hXk.out.over (w' := u1) (G := (· < w.heap.size)) (fun b hb => hb1.block b (Nat.lt_of_lt_of_le hb hz)) (fun b hb => hb)
      have hM1 := hMk.out.ov hb1
      have hK1 := below_call hb1 hKk.out
      clear hXk hMk hKk hb1 hC hxq2 m0 m1 m2 m3 m4 m5 ml x0 x1 x2 x3 x4 x5
      replace hX1 := Lib.hid hX1
      replace hM1 := Lib.hid hM1
      replace hK1 := Lib.hid hK1
      by_cases hgt : (M : Int) < D
      · have hme : mxd (t.args.take (k + 1)) = a.dep + 1 := by rw [hmx.out]; omega
        have hme2 : Value.int .i64 D = .int .i64 ((mxd (t.args.take (k + 1)) : Nat) : Int) := by rw [hme, ← hD]; rfl
        replace hme2 := Lib.hid hme2
        clear hme
        go_wp2_with fail
        go_roundw
        case rel => exact ⟨k + 1, by omega, hme2.out, by go_num, hX1.out, hM1.out, hK1.out⟩
        case measure => (simp [RowKit.intOf]; omega)
      · have hme : mxd (t.args.take (k + 1)) = M := by rw [hmx.out]; omega
        have hme2 : Value.int .i64 (M : Int) = .int .i64 ((mxd (t.args.take (k + 1)) : Nat) : Int) := by rw [hme]
        replace hme2 := Lib.hid hme2
        clear hme
        go_wp2_with fail
        go_roundw
        case rel => exact ⟨k + 1, by omega, hme2.out, by go_num, hX1.out, hM1.out, hK1.out⟩
        case measure => (simp [RowKit.intOf]; omega)
    · obtain rfl : k = n := by omega
      have htk : t.args.take k = t.args := by rw [← hn.out, List.take_length]
      rw [htk, hmd.out]
      have hwd : IntKind.i64.wrap ((t.dep : Int) + 1) = (t.dep : Int) + 1 := IntWalk.i64_in _ (by omega)
      replace hKk := Lib.hid hKk
      clear hXk hMk
      go_wp2_with fail
      go_ret
      exact ⟨rfl, by have := hKk.out; go_grown⟩
theorem rdep_all : ∀ t : XT, RDo t
  | .z h => rdep_1 _ fun a ha => by simp [XT.args] at ha
  | .u h x => rdep_1 _ fun a ha => by
    have h1 := rdep_all x
    simp [XT.args] at ha
    subst ha
    exact h1
  | .b h x y => rdep_1 _ fun a ha => by
    have h1 := rdep_all x
    have h2 := rdep_all y
    simp [XT.args] at ha
    rcases ha with rfl | rfl
    · exact h1
    · exact h2
  | .t h x y z => rdep_1 _ fun a ha => by
    have h1 := rdep_all x
    have h2 := rdep_all y
    have h3 := rdep_all z
    simp [XT.args] at ha
    rcases ha with rfl | rfl | rfl
    · exact h1
    · exact h2
    · exact h3
/-- The names on the way, plain. -/
def XT.nmp : XT → List NB
  | .z h => nm1 h
  | .u h x => nm1 h ++ x.nmp
  | .b h x y => nm1 h ++ (x.nmp ++ y.nmp)
  | .t h x y q => nm1 h ++ (x.nmp ++ (y.nmp ++ q.nmp))
theorem nst_vis : ∀ (t : XT) (d : Int) (l : List NB), vis nst t d l = l ++ t.nmp
  | .z h, d, l => rfl
  | .u h x, d, l => by simp only [vis, nst_vis x, nst, XT.nmp, List.append_assoc]
  | .b h x y, d, l => by simp only [vis, nst_vis x, nst_vis y, nst, XT.nmp, List.append_assoc]
  | .t h x y q, d, l => by simp only [vis, nst_vis x, nst_vis y, nst_vis q, nst, XT.nmp, List.append_assoc]
theorem nms_nmp (t : XT) : t.nms = t.nmp := by unfold XT.nms; rw [nst_vis]; rfl
theorem nmp_len : ∀ t : XT, t.nmp.length ≤ t.nds
  | .z h => by have := nm1_len h; simp only [XT.nmp, XT.nds]; omega
  | .u h x => by have := nm1_len h; have := nmp_len x; simp only [XT.nmp, XT.nds, List.length_append]; omega
  | .b h x y => by have := nm1_len h; have := nmp_len x; have := nmp_len y; simp only [XT.nmp, XT.nds, List.length_append]; omega
  | .t h x y q => by have := nm1_len h; have := nmp_len x; have := nmp_len y; have := nmp_len q; simp only [XT.nmp, XT.nds, List.length_append]; omega
theorem ins_args (t : XT) (l : List NB) : insAll l t.nmp = t.args.foldl (fun o a => insAll o a.nmp) (insAll l (nm1 t.h)) := by
  cases t <;> simp [XT.nmp, XT.args, XT.h, insAll_app]
theorem insF_len (L : List XT) : ∀ l : List NB, (L.foldl (fun o a => insAll o a.nmp) l).length ≤ l.length + ndsL L := by
  induction L with
  | nil => intro l; simp [ndsL]
  | cons x L ih =>
    intro l
    have h1 := ih (insAll l x.nmp)
    have h2 := insAll_len x.nmp l
    have h3 := nmp_len x
    simp only [List.foldl_cons, ndsL, List.map_cons, List.sum_cons] at *
    omega
end Go.Proofs.Ytljiiniocnljmaa

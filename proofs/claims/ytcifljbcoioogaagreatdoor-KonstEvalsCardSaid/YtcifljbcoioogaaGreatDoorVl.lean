/-
  Placed: a tree whose nodes have places, one behind the other.
-/
import Derived.Test.YtcifljbcoioogaaGreatDoorVk
namespace Go.Proofs.YtcifljbcoioogaaGreatDoor
open Go.RowKit Go.Lib
def XT.cnt : XT → Nat
  | .z _ => 1
  | .u _ x => x.cnt + 1
  | .b _ x y => x.cnt + y.cnt + 1
  | .t _ x y v => x.cnt + y.cnt + v.cnt + 1
def plH (h : XH) (m : Int) : XH := ⟨h.k, 1, 1, m, h.s⟩
def pl : XT → Int → XT
  | .z h, m => .z (plH h m)
  | .u h a, m => .u (plH h m) (pl a (m + 1))
  | .b h a b, m => .b (plH h m) (pl a (m + 1)) (pl b (m + 1 + a.cnt))
  | .t h a b c, m => .t (plH h m) (pl a (m + 1)) (pl b (m + 1 + a.cnt)) (pl c (m + 1 + a.cnt + b.cnt))
def plcL : List XT → Int → List XT
  | [], _ => []
  | a :: l, m => pl a m :: plcL l (m + a.cnt)
def cntL : List XT → Nat
  | [] => 0
  | a :: l => a.cnt + cntL l
theorem pl_h (t : XT) (m : Int) : (pl t m).h = plH t.h m := by cases t <;> rfl
theorem pl_args (t : XT) (m : Int) : (pl t m).args = plcL t.args (m + 1) := by cases t <;> rfl
theorem pl_len (t : XT) (m : Int) : (pl t m).args.length = t.args.length := by cases t <;> rfl
theorem pl_mk (t : XT) (m : Int) : mkT (plH t.h m) (plcL t.args (m + 1)) = pl t m := by rw [← pl_h, ← pl_args, mkT_eta]
theorem cnt_args (t : XT) : t.cnt = 1 + cntL t.args := by cases t <;> simp [XT.cnt, cntL, XT.args] <;> omega
theorem plL_snoc (l : List XT) (a : XT) : ∀ m, plcL (l ++ [a]) m = plcL l m ++ [pl a (m + cntL l)] := by
  induction l with
  | nil => intro m; simp [plcL, cntL]
  | cons b l ih => intro m; simp [plcL, cntL, ih, Int.add_assoc]
theorem cntL_snoc (l : List XT) (a : XT) : cntL (l ++ [a]) = cntL l + a.cnt := by
  induction l with
  | nil => simp [cntL]
  | cons b l ih => simp [cntL, ih, Nat.add_assoc]
theorem cntL_take (l : List XT) (k : Nat) : cntL (l.take k) ≤ cntL l := by
  induction l generalizing k with
  | nil => simp [cntL]
  | cons b l ih => cases k with
    | zero => simp [cntL]
    | succ k => have := ih k; simp [cntL]; omega
theorem pl_wx : ∀ (t : XT) (m : Int), WX t → WX (pl t m)
  | .z _, _, ⟨a, b⟩ => ⟨a, b⟩
  | .u _ x, _, ⟨a, b⟩ => ⟨a, pl_wx x _ b⟩
  | .b _ x y, _, ⟨a, b, c⟩ => ⟨a, pl_wx x _ b, pl_wx y _ c⟩
  | .t _ x y z, _, ⟨a, b, c, d⟩ => ⟨a, pl_wx x _ b, pl_wx y _ c, pl_wx z _ d⟩
/-- What Placed leaves. -/
def PLR (t : XT) (m : Int) (w : World) (e : Ending) (w' : World) : Prop := ∃ A c, e = .returned (.tuple #[.agg #[.int .i64 t.h.k, .int .i64 1, .int .i64 1, .int .i64 m, .string t.h.s, .slice A t.args.length c], .int .i64 (m + (t.cnt : Nat))]) ∧ XQ w' (fun b => w.heap.size ≤ b ∧ b < w'.heap.size) (pl t m) A ∧ Below w.heap.size w w'
set_option maxRecDepth 100000 in
set_option maxHeartbeats 6400000 in
theorem Placed_t1 (t : XT) (A : Option Addr) (c : Nat) (m : Int) (w : World) (hm : 0 ≤ m) (hm2 : m + (t.cnt : Nat) ≤ 1000000) (hX0 : XQ w (· < w.heap.size) t A)
    (hE : ∀ a ∈ t.args, ∀ Aj cj (m : Int) W, 0 ≤ m → m + (a.cnt : Nat) ≤ 1000000 → XQ W (· < W.heap.size) a Aj → Calls Tryz.prog 7 #[xv a.h Aj a.args.length cj, .int .i64 m] W (PLR a m W)) :
    Calls Tryz.prog 7 #[xv t.h A t.args.length c, .int .i64 m] w (PLR t m w) := by
  obtain ⟨i0, hi, hz0, hz1, hz2⟩ := info_parts info_expr
  have h3 := t.args_le
  have hcnt := cnt_args t
  unfold PLR at *
  obtain ⟨n, hn⟩ : ∃ n, t.args.length = n := ⟨_, rfl⟩
  obtain ⟨h, hh⟩ : ∃ h, t.h = h := ⟨_, rfl⟩
  have hmk := pl_mk t m
  rw [hh] at hmk ⊢
  rw [hn] at h3 ⊢
  obtain ⟨C, hC0⟩ : ∃ C, t.cnt = C := ⟨_, rfl⟩
  rw [hC0] at hm2 hcnt ⊢
  have hB0 := (BX.new w 33 (plH h m) A n c).al (.cells #[.int .i64 0, .int .i64 0, .int .i64 0, .int .i64 0, .string ⟨#[]⟩, .slice none 0 0] 33)
  have hZ0 : EZ ((w.alloc (.cells #[.int .i64 h.k, .int .i64 1, .int .i64 1, .int .i64 m, .string h.s, .slice A n c] 33)).alloc (.cells #[.int .i64 0, .int .i64 0, .int .i64 0, .int .i64 0, .string ⟨#[]⟩, .slice none 0 0] 33)) (w.heap.size + 1) := by
    have h1 := heap_alloc_new (w.alloc (.cells #[.int .i64 h.k, .int .i64 1, .int .i64 1, .int .i64 m, .string h.s, .slice A n c] 33)) (.cells #[.int .i64 0, .int .i64 0, .int .i64 0, .int .i64 0, .string ⟨#[]⟩, .slice none 0 0] 33)
    rw [show (w.alloc (.cells #[.int .i64 h.k, .int .i64 1, .int .i64 1, .int .i64 m, .string h.s, .slice A n c] 33)).heap.size = w.heap.size + 1 by simp] at h1
    exact h1
  have hb0 : Below w.heap.size w ((w.alloc (.cells #[.int .i64 h.k, .int .i64 1, .int .i64 1, .int .i64 m, .string h.s, .slice A n c] 33)).alloc (.cells #[.int .i64 0, .int .i64 0, .int .i64 0, .int .i64 0, .string ⟨#[]⟩, .slice none 0 0] 33)) := by go_grown
  have hsz : w.heap.size + 1 + 1 ≤ ((w.alloc (.cells #[.int .i64 h.k, .int .i64 1, .int .i64 1, .int .i64 m, .string h.s, .slice A n c] 33)).alloc (.cells #[.int .i64 0, .int .i64 0, .int .i64 0, .int .i64 0, .string ⟨#[]⟩, .slice none 0 0] 33)).heap.size := by simp
  have hB0' : BX ((w.alloc (.cells #[.int .i64 h.k, .int .i64 1, .int .i64 1, .int .i64 m, .string h.s, .slice A n c] 33)).alloc (.cells #[.int .i64 0, .int .i64 0, .int .i64 0, .int .i64 0, .string ⟨#[]⟩, .slice none 0 0] 33)) w.heap.size 33 (plH h m) A n c := hB0
  have hw0 : IntKind.i64.wrap (m + 1) = m + 1 := IntWalk.i64_in _ (by omega)
  replace hE := Lib.hid hE
  replace hX0 := Lib.hid hX0
  replace hn := Lib.hid hn
  replace hB0' := Lib.hid hB0'
  replace hZ0 := Lib.hid hZ0
  replace hb0 := Lib.hid hb0
  replace hsz := Lib.hid hsz
  replace hmk := Lib.hid hmk
  replace hcnt := Lib.hid hcnt
  replace hm2 := Lib.hid hm2
  clear hB0 hh hC0
  go_enter Tryz.func7, Tryz.ntmps7
  go_wp2_with fail
  go_loopw [1, 6, 19] (fun nv v iv wr => ∃ (k : Nat) (rs : List XE) (q : Int), rs.length = k ∧ k ≤ n ∧ iv = .int .i64 (k : Int) ∧ nv = .int .i64 q ∧ q = m + 1 + (cntL (t.args.take k) : Nat) ∧ wr.ownsRow (w.heap.size + 1 + 1) 33 6 v k (ecs rs) ∧ XRow wr (GX (w.heap.size + 1 + 1) v wr) rs ∧ rs.map XE.t = plcL (t.args.take k) (m + 1) ∧ BX wr w.heap.size 33 (plH h m) A n c ∧ EZ wr (w.heap.size + 1) ∧ Below w.heap.size w wr ∧ w.heap.size + 1 + 1 ≤ wr.heap.size) (fun _ _ iv _ => n - (RowKit.intOf iv).toNat)
  case atStart => exact ⟨0, [], m + 1, rfl, Nat.zero_le _, rfl, rfl, by simp [cntL], ⟨rfl, Or.inl ⟨rfl, rfl⟩⟩, XRow.nil _ _, rfl, hB0'.out, hZ0.out, hb0.out, hsz.out⟩
  case round =>
    obtain ⟨k, rs, q, hrk, hk, rfl, rfl, hqe, ho, hX, hP, hBX, hZ, hK, hwz⟩ := hrel
    clear hB0' hZ0 hb0 hsz
    obtain ⟨A1, c1, rfl⟩ := own_shape ho
    have hz := hK.size
    replace hrk := Lib.hid hrk
    by_cases hlt : k < n
    · have hw1 : IntKind.i64.wrap ((k : Int) + 1) = (k : Int) + 1 := IntWalk.i64_in _ (by omega)
      have hkl : k < t.args.length := by rw [hn.out]; exact hlt
      have hXr := hX0.out.belowed hK
      obtain ⟨b, o, rfl, hb, Aj, cj, hxc, hxq⟩ := hX0.out.get k hkl
      obtain ⟨b', o', hbe, hb', Aj', cj', hxc', hxq'⟩ := hXr.get k hkl
      cases hbe
      have hts := take_snocT hkl
      have hct : cntL (t.args.take (k + 1)) = cntL (t.args.take k) + (t.args[k]).cnt := by rw [hts, cntL_snoc]
      have hPt : plcL (t.args.take (k + 1)) (m + 1) = plcL (t.args.take k) (m + 1) ++ [pl t.args[k] q] := by rw [hts, plL_snoc, hqe]
      have hle := cntL_take t.args (k + 1)
      have hcnt0 := hcnt.out
      have hm20 := hm2.out
      have hC := fun W (r : XQ W (· < W.heap.size) t.args[k] Aj') => hE.out t.args[k] (List.getElem_mem hkl) Aj' cj' q W (by omega) (by omega) r
      have hPn := (congrArg (· ++ [pl t.args[k] q]) hP).trans hPt.symm
      obtain ⟨a, ha⟩ : ∃ a, t.args[k] = a := ⟨_, rfl⟩
      rw [ha] at hC hxc' hxq' hPn hct
      have hqn : q + (a.cnt : Nat) = m + 1 + (cntL (t.args.take (k + 1)) : Nat) := by rw [hqe, hct]; omega
      clear hxc hxq ha hX0 hXr hP hts hct hPt hle hcnt0 hm20 hqe
      obtain ⟨x0, x1, x2, x3, x4, x5⟩ := hxc'
      have hba := (Below.refl wr.heap.size wr).alloc (Nat.le_refl _) (.cells #[.int .i64 a.h.k, .int .i64 a.h.f, .int .i64 a.h.l, .int .i64 a.h.c, .string a.h.s, .slice Aj' a.args.length cj'] 33)
      have hxq2 := hxq'.belowed hba
      have ho0 := ho.alloc (.cells #[.int .i64 a.h.k, .int .i64 a.h.f, .int .i64 a.h.l, .int .i64 a.h.c, .string a.h.s, .slice Aj' a.args.length cj'] 33)
      have hB2 := hBX.al (.cells #[.int .i64 a.h.k, .int .i64 a.h.f, .int .i64 a.h.l, .int .i64 a.h.c, .string a.h.s, .slice Aj' a.args.length cj'] 33)
      have hZ2 := hZ.alloc (.cells #[.int .i64 a.h.k, .int .i64 a.h.f, .int .i64 a.h.l, .int .i64 a.h.c, .string a.h.s, .slice Aj' a.args.length cj'] 33)
      have hsz0 : (wr.alloc (.cells #[.int .i64 a.h.k, .int .i64 a.h.f, .int .i64 a.h.l, .int .i64 a.h.c, .string a.h.s, .slice Aj' a.args.length cj'] 33)).heap.size = wr.heap.size + 1 := by simp
      have hX2 := hX.over (G := GX (w.heap.size + 1 + 1) (.slice A1 k c1) (wr.alloc (.cells #[.int .i64 a.h.k, .int .i64 a.h.f, .int .i64 a.h.l, .int .i64 a.h.c, .string a.h.s, .slice Aj' a.args.length cj'] 33))) (fun b hb => hba.block b hb.2.1) (GX.grow hba.size)
      have hK2 := below_call hba hK
      have hown := own_ltT ho
      obtain ⟨qn, hqq⟩ : ∃ qn, q + (a.cnt : Nat) = qn := ⟨_, rfl⟩
      rw [hqq] at hC hqn
      clear hxq' hba ho hX hBX hZ hqq
      replace ho0 := Lib.hid ho0
      replace hX2 := Lib.hid hX2
      replace hK2 := Lib.hid hK2
      replace hB2 := Lib.hid hB2
      replace hZ2 := Lib.hid hZ2
      replace hxq2 := Lib.hid hxq2
      replace hC := Lib.hid hC
      replace hPn := Lib.hid hPn
      replace hqn := Lib.hid hqn
      replace hsz0 := Lib.hid hsz0
      replace hown := Lib.hid hown
      replace hK := Lib.hid hK
      go_wp2_with fail
      (with_reducible refine (hC.out _ hxq2.out).mono ?_)
      rintro e w1 ⟨A2, c2, rfl, hXt, hb1⟩
      have hs0 := hsz0.out
      have ho1 := own_keepT ho0.out fun b hb => hb1.block b (by have := (hown.out b hb).2; omega)
      have hX1 := hX2.out.over (G := GX (w.heap.size + 1 + 1) (.slice A1 k c1) w1) (fun b hb => hb1.block b hb.2.1) (GX.grow hb1.size)
      have hXt1 : XQ w1 (GX (w.heap.size + 1 + 1) (.slice A1 k c1) w1) (pl a q) A2 := hXt.over (fun _ _ => rfl) fun b hb => ⟨by omega, hb.2, fun e => by have := (hown.out b e.symm).2; omega⟩
      have hKw1 := below_call hb1 hK2.out
      have hB1 := hB2.out.ov hb1
      have hZ1 : EZ w1 (w.heap.size + 1) := (hb1.block _ (lt_of_get hZ2.out)).trans hZ2.out
      have hzw1 : wr.heap.size + 1 ≤ w1.heap.size := by have := hb1.size; omega
      clear hXt ho0 hX2 hK2 hsz0 x0 x1 x2 x3 x4 x5 hB2 hZ2 hb1 hs0
      have hbY := (Below.refl w1.heap.size w1).alloc (Nat.le_refl _) (.cells #[.int .i64 a.h.k, .int .i64 1, .int .i64 1, .int .i64 q, .string a.h.s, .slice A2 a.args.length c2] 33)
      have hoY := ho1.alloc (.cells #[.int .i64 a.h.k, .int .i64 1, .int .i64 1, .int .i64 q, .string a.h.s, .slice A2 a.args.length c2] 33)
      have hXY := hX1.over (G := GX (w.heap.size + 1 + 1) (.slice A1 k c1) (w1.alloc (.cells #[.int .i64 a.h.k, .int .i64 1, .int .i64 1, .int .i64 q, .string a.h.s, .slice A2 a.args.length c2] 33))) (fun b hb => hbY.block b hb.2.1) (GX.grow hbY.size)
      have hXtY := hXt1.over (G := GX (w.heap.size + 1 + 1) (.slice A1 k c1) (w1.alloc (.cells #[.int .i64 a.h.k, .int .i64 1, .int .i64 1, .int .i64 q, .string a.h.s, .slice A2 a.args.length c2] 33))) (fun b hb => hbY.block b hb.2.1) (GX.grow hbY.size)
      have hKY := below_call hbY hKw1
      have hBY := hB1.al (.cells #[.int .i64 a.h.k, .int .i64 1, .int .i64 1, .int .i64 q, .string a.h.s, .slice A2 a.args.length c2] 33)
      have hZY := hZ1.alloc (.cells #[.int .i64 a.h.k, .int .i64 1, .int .i64 1, .int .i64 q, .string a.h.s, .slice A2 a.args.length c2] 33)
      have hsY : (w1.alloc (.cells #[.int .i64 a.h.k, .int .i64 1, .int .i64 1, .int .i64 q, .string a.h.s, .slice A2 a.args.length c2] 33)).heap.size = w1.heap.size + 1 := by simp
      obtain ⟨w2, hw2⟩ : ∃ W, w1.alloc (.cells #[.int .i64 a.h.k, .int .i64 1, .int .i64 1, .int .i64 q, .string a.h.s, .slice A2 a.args.length c2] 33) = W := ⟨_, rfl⟩
      rw [hw2] at hoY hXY hXtY hKY hBY hZY hsY
      have hY : BX w2 w1.heap.size 33 (plH a.h q) A2 a.args.length c2 := by rw [← hw2]; exact BX.new w1 33 (plH a.h q) A2 a.args.length c2
      obtain ⟨y0, y1, y2, y3, y4, y5⟩ := hY.all
      dsimp only [plH] at y0 y1 y2 y3 y4 y5
      have yl := hY.lt
      clear hbY ho1 hX1 hXt1 hKw1 hB1 hZ1 hY
      have hR := heap_alloc_new w2 (.cells #[.int .i64 a.h.k, .int .i64 1, .int .i64 1, .int .i64 q, .string a.h.s, .slice A2 a.args.length c2] 33)
      have hba := (Below.refl w2.heap.size w2).alloc (Nat.le_refl _) (.cells #[.int .i64 a.h.k, .int .i64 1, .int .i64 1, .int .i64 q, .string a.h.s, .slice A2 a.args.length c2] 33)
      have ho2 := hoY.alloc (.cells #[.int .i64 a.h.k, .int .i64 1, .int .i64 1, .int .i64 q, .string a.h.s, .slice A2 a.args.length c2] 33)
      have hX2 := hXY.over (G := GX (w.heap.size + 1 + 1) (.slice A1 k c1) (w2.alloc (.cells #[.int .i64 a.h.k, .int .i64 1, .int .i64 1, .int .i64 q, .string a.h.s, .slice A2 a.args.length c2] 33))) (fun b hb => hba.block b hb.2.1) (GX.grow hba.size)
      have hXt2 := hXtY.over (G := GX (w.heap.size + 1 + 1) (.slice A1 k c1) (w2.alloc (.cells #[.int .i64 a.h.k, .int .i64 1, .int .i64 1, .int .i64 q, .string a.h.s, .slice A2 a.args.length c2] 33))) (fun b hb => hba.block b hb.2.1) (GX.grow hba.size)
      have hK2 := below_call hba hKY
      have hB2 := hBY.al (.cells #[.int .i64 a.h.k, .int .i64 1, .int .i64 1, .int .i64 q, .string a.h.s, .slice A2 a.args.length c2] 33)
      have hZ2 := hZY.alloc (.cells #[.int .i64 a.h.k, .int .i64 1, .int .i64 1, .int .i64 q, .string a.h.s, .slice A2 a.args.length c2] 33)
      clear hba hoY hXY hXtY hKY hBY hZY
      replace hR := Lib.hid hR
      replace ho2 := Lib.hid ho2
      replace hX2 := Lib.hid hX2
      replace hXt2 := Lib.hid hXt2
      replace hK2 := Lib.hid hK2
      replace hB2 := Lib.hid hB2
      replace hZ2 := Lib.hid hZ2
      replace hsY := Lib.hid hsY
      go_wp2_with (at_builtin; refine wpList_append_lies _ rfl _ _ 31 rfl (w.heap.size + 1 + 1) 33 i0 (.agg #[.int .i64 0, .int .i64 0, .int .i64 0, .int .i64 0, .string ⟨#[]⟩, .slice none 0 0]) 6 72 Tryz.underlying31 hi hz0 hz1 hz2 rfl (by decide) _ k (ecs rs) rfl ho2.out ⟨w2.heap.size, 0, none⟩ 1 1 [.int .i64 a.h.k, .int .i64 1, .int .i64 1, .int .i64 q, .string a.h.s, .slice A2 a.args.length c2] rfl ?a0 ?a1 ?a2 ?a3 ?a4 ?a5 ?a6 (w2.heap.size + 1) ?a7 ?a8)
      case a0 => rfl
      case a1 => exact World.news_of_block hR.out
      case a2 => simp [Value.oneCell']
      case a3 => decide
      case a4 => unfold maxLen; omega
      case a5 => omega
      case a6 => simp [hsY.out]; omega
      case a7 => simp
      case a8 =>
        intro g6 cap6 w6 ho6 hg6 hgb hlt6
        have hX6 := row_grown (k := k + 1) (cap := cap6) (r := ⟨pl a q, A2, c2⟩) hg6 (by rw [World.size_alloc]; exact hgb) hX2.out hXt2.out
        have hown2 := own_ltT ho2.out
        have hK6 : Below w.heap.size w w6 := hK2.out.trans ⟨hg6.os, hg6.tape, hg6.output, hg6.size, fun q hq => hg6.block q (by have := hK2.out.size; omega) fun e => by have := (hown2 q e.symm).1; omega⟩
        have hB6 : BX w6 w.heap.size 33 (plH h m) (some ⟨b, o, none⟩) n c := (hg6.block _ hB2.out.lt fun e => by have := (hown2 _ e.symm).1; omega).trans hB2.out
        have hZ6 : EZ w6 (w.heap.size + 1) := (hg6.block _ (lt_of_get hZ2.out) fun e => by have := (hown2 _ e.symm).1; omega).trans hZ2.out
        have hs6 : w.heap.size + 1 + 1 ≤ w6.heap.size := by have h1 := hg6.size; have h2 := hsY.out; rw [World.size_alloc] at h1; omega
        have hl6 : (rs ++ [(⟨pl a q, A2, c2⟩ : XE)]).length = k + 1 := by rw [List.length_append, hrk.out]; rfl
        have hP6 : (rs ++ [(⟨pl a q, A2, c2⟩ : XE)]).map XE.t = plcL (t.args.take (k + 1)) (m + 1) := by rw [List.map_append]; exact hPn.out
        have he6 : ecs rs ++ [.int .i64 a.h.k, .int .i64 1, .int .i64 1, .int .i64 q, .string a.h.s, .slice A2 a.args.length c2] = ecs (rs ++ [(⟨pl a q, A2, c2⟩ : XE)]) := by
          rw [ecs_app]
          simp only [ecs, List.flatMap_cons, List.flatMap_nil, List.append_nil, ec, pl_h, pl_len, plH]
        rw [he6] at ho6
        clear ho2 hX2 hXt2 hK2 hR hg6 hgb he6 hown2 hB2 hZ2 hsY
        replace ho6 := Lib.hid ho6
        replace hX6 := Lib.hid hX6
        replace hK6 := Lib.hid hK6
        replace hB6 := Lib.hid hB6
        replace hZ6 := Lib.hid hZ6
        replace hl6 := Lib.hid hl6
        replace hP6 := Lib.hid hP6
        go_wp2_with fail
        go_roundw
        case rel => exact ⟨k + 1, rs ++ [⟨pl a q, A2, c2⟩], qn, hl6.out, by omega, by go_num, rfl, hqn.out, ho6.out, hX6.out, hP6.out, hB6.out, hZ6.out, hK6.out, hs6⟩
        case measure => (simp [RowKit.intOf]; omega)
    · obtain rfl : k = n := by omega
      have hl := hrk.out
      have hlt0 : t.args.take k = t.args := by rw [← hn.out, List.take_length]
      rw [hlt0] at hqe hP
      have hXn := hX.over (G := fun b => w.heap.size + 1 < b ∧ b < wr.heap.size) (fun _ _ => rfl) fun b hb => ⟨by have := hb.1; omega, hb.2.1⟩
      have ho0 : wr.ownsRow (w.heap.size + 1 + 1) 33 6 (.slice A1 k c1) rs.length (ecs rs) := by rw [hl]; exact ho
      have hq := (row_XQ ho0 hXn (fun g h1 h2 => ⟨by omega, h2⟩) (by omega) (plH h m)).2
      rw [hP, hmk.out] at hq
      have hqC : q = m + (C : Nat) := by have := hcnt.out; rw [hqe, this]; omega
      clear hqe hmk hcnt hX ho hXn ho0 hP
      subst hqC
      obtain ⟨k0, k1, k2, k3, k4, k5⟩ := hBX.all
      dsimp only [plH] at k0 k1 k2 k3 k4 k5
      have kl := hBX.lt
      have kf : ∀ i, wr.frozen? ⟨w.heap.size, i, none⟩ = false := fun i => Lib.frozen_of_heap hBX i
      have hZs : EZ (wr.setCell ⟨w.heap.size, 5, none⟩ (.slice A1 k c1)) (w.heap.size + 1) := (Below.heap_setCell _ _ _ _ (by simp)).trans hZ
      obtain ⟨zf, zl, z0, z1, z2, z3, z4, z5⟩ := hZ.all
      have six := hZs.six (.int .i64 h.k) (.int .i64 1) (.int .i64 1) (.int .i64 m) (.string h.s) (.slice A1 k c1)
      have hXs : XQ (wr.setCell ⟨w.heap.size, 5, none⟩ (.slice A1 k c1)) (fun b => w.heap.size + 1 < b ∧ b < wr.heap.size) (pl t m) A1 := hq.over (fun b hb => Below.heap_setCell _ _ _ _ (by simp; omega)) fun _ hb => hb
      have hKs : Keep (fun x => w.heap.size ≤ x) w (wr.setCell ⟨w.heap.size, 5, none⟩ (.slice A1 k c1)) := (Keep.of_below hK).set ⟨w.heap.size, 5, none⟩ (Nat.le_refl _) _
      have hss : (wr.setCell ⟨w.heap.size, 5, none⟩ (.slice A1 k c1)).heap.size = wr.heap.size := World.size_setCell _ _ _
      replace hXs := Lib.hid hXs
      replace hKs := Lib.hid hKs
      replace six := Lib.hid six
      replace hss := Lib.hid hss
      clear hq hBX hZ hZs hK
      go_wp2_with fail
      refine bodyPost_ret (v := .tuple #[.agg #[.int .i64 h.k, .int .i64 1, .int .i64 1, .int .i64 m, .string h.s, .slice A1 k c1], .int .i64 (m + (C : Nat))]) (by simp [results, Tryz.results7, go_sem, six.out]) rfl ?_
      refine ⟨A1, c1, rfl, ?_, ?_⟩
      · exact hXs.out.over (fun b hb => set6_far _ _ _ _ _ _ _ _ b (by omega)) fun b hb => ⟨by omega, by rw [set6_size, hss.out]; exact hb.2⟩
      · exact (hKs.out.trans (set6_keep _ (w.heap.size + 1) _ _ _ _ _ _) fun x hx => .inl (by omega)).below (Nat.le_refl _) fun b hb => hb
theorem Placed_all : ∀ (t : XT) (A : Option Addr) (c : Nat) (m : Int) (w : World), 0 ≤ m → m + (t.cnt : Nat) ≤ 1000000 → XQ w (· < w.heap.size) t A → Calls Tryz.prog 7 #[xv t.h A t.args.length c, .int .i64 m] w (PLR t m w)
  | .z h => fun A c m w h1 h2 hX => Placed_t1 _ A c m w h1 h2 hX fun a ha => by simp [XT.args] at ha
  | .u h a => fun A c m w h1 h2 hX => Placed_t1 _ A c m w h1 h2 hX fun x hx => by
    have p1 := Placed_all a
    simp [XT.args] at hx
    subst hx
    exact fun Aj cj m W q1 q2 q => p1 Aj cj m W q1 q2 q
  | .b h a1 a2 => fun A c m w h1 h2 hX => Placed_t1 _ A c m w h1 h2 hX fun x hx => by
    have p1 := Placed_all a1
    have p2 := Placed_all a2
    simp [XT.args] at hx
    rcases hx with rfl | rfl
    · exact fun Aj cj m W q1 q2 q => p1 Aj cj m W q1 q2 q
    · exact fun Aj cj m W q1 q2 q => p2 Aj cj m W q1 q2 q
  | .t h a1 a2 a3 => fun A c m w h1 h2 hX => Placed_t1 _ A c m w h1 h2 hX fun x hx => by
    have p1 := Placed_all a1
    have p2 := Placed_all a2
    have p3 := Placed_all a3
    simp [XT.args] at hx
    rcases hx with rfl | rfl | rfl
    · exact fun Aj cj m W q1 q2 q => p1 Aj cj m W q1 q2 q
    · exact fun Aj cj m W q1 q2 q => p2 Aj cj m W q1 q2 q
    · exact fun Aj cj m W q1 q2 q => p3 Aj cj m W q1 q2 q
end Go.Proofs.YtcifljbcoioogaaGreatDoor

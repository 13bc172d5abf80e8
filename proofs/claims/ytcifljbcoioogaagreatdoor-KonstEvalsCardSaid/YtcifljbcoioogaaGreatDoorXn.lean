/-
  The evaluator on trees: value, eval: for every tree.
-/
import Derived.Test.YtcifljbcoioogaaGreatDoorXm
namespace Go.Proofs.YtcifljbcoioogaaGreatDoor
open Go.RowKit Go.Lib Go.Maps
section
variable {B p : Nat} {M : Value} {es : List (List UInt8 × Int)}
theorem VP.of {w w1 w' : World} {r : KR} {x : Ending} (k : Keep (· = p) w w1) (h : VP p M w1 r x w') : VP p M w r x w' := by
  obtain ⟨n, e, hn, hp, hk⟩ := h
  exact ⟨n, e, hn, hp, k.both hk⟩
set_option maxRecDepth 100000 in
set_option maxHeartbeats 1600000 in
theorem value_1 (h : XH) (A : Option Addr) (c : Nat) (w : World) (r : KR) (hk : h.k = 1) (hC : Calls Tryz.prog 43 #[pe p, xv h A 0 c] (w.alloc (.cells #[.int .i64 h.k, .int .i64 h.f, .int .i64 h.l, .int .i64 h.c, .string h.s, .slice A 0 c] 47)) (VP p M (w.alloc (.cells #[.int .i64 h.k, .int .i64 h.f, .int .i64 h.l, .int .i64 h.c, .string h.s, .slice A 0 c] 47)) r)) :
    Calls Tryz.prog 32 #[pe p, xv h A 0 c] w (VP p M w r) := by
  have hk1 := (Keep.refl (· = p) w).alloc (.cells #[.int .i64 h.k, .int .i64 h.f, .int .i64 h.l, .int .i64 h.c, .string h.s, .slice A 0 c] 47)
  have t1 : (h.k == 1) = true := by simp; omega
  have t2 : (h.k == 2) = false := by simp; omega
  have t3 : (h.k == 3) = false := by simp; omega
  have t4 : (h.k == 4) = false := by simp; omega
  have t5 : (h.k == 5) = false := by simp; omega
  clear hk
  replace hC := Lib.hid hC
  replace hk1 := Lib.hid hk1
  go_enter Tryz.func32, Tryz.ntmps32
  go_wp2_with fail
  (with_reducible refine hC.out.mono ?_)
  rintro e w1 ⟨m, rfl, hm, hp, hk⟩
  replace hm := Lib.hid hm
  replace hp := Lib.hid hp
  have hk2 := Lib.hid (hk1.out.both hk)
  clear hk
  go_wp2_with fail
  go_ret
  exact ⟨m, rfl, hm.out, hp.out, hk2.out⟩
set_option maxRecDepth 100000 in
set_option maxHeartbeats 1600000 in
theorem value_2 (h : XH) (A : Option Addr) (c : Nat) (w : World) (r : KR) (hk : h.k = 2) (hC : Calls Tryz.prog 44 #[pe p, xv h A 0 c] (w.alloc (.cells #[.int .i64 h.k, .int .i64 h.f, .int .i64 h.l, .int .i64 h.c, .string h.s, .slice A 0 c] 47)) (VP p M (w.alloc (.cells #[.int .i64 h.k, .int .i64 h.f, .int .i64 h.l, .int .i64 h.c, .string h.s, .slice A 0 c] 47)) r)) :
    Calls Tryz.prog 32 #[pe p, xv h A 0 c] w (VP p M w r) := by
  have hk1 := (Keep.refl (· = p) w).alloc (.cells #[.int .i64 h.k, .int .i64 h.f, .int .i64 h.l, .int .i64 h.c, .string h.s, .slice A 0 c] 47)
  have t1 : (h.k == 1) = false := by simp; omega
  have t2 : (h.k == 2) = true := by simp; omega
  have t3 : (h.k == 3) = false := by simp; omega
  have t4 : (h.k == 4) = false := by simp; omega
  have t5 : (h.k == 5) = false := by simp; omega
  clear hk
  replace hC := Lib.hid hC
  replace hk1 := Lib.hid hk1
  go_enter Tryz.func32, Tryz.ntmps32
  go_wp2_with fail
  (with_reducible refine hC.out.mono ?_)
  rintro e w1 ⟨m, rfl, hm, hp, hk⟩
  replace hm := Lib.hid hm
  replace hp := Lib.hid hp
  have hk2 := Lib.hid (hk1.out.both hk)
  clear hk
  go_wp2_with fail
  go_ret
  exact ⟨m, rfl, hm.out, hp.out, hk2.out⟩
set_option maxRecDepth 100000 in
set_option maxHeartbeats 1600000 in
theorem value_3 (h : XH) (A : Option Addr) (c : Nat) (w : World) (r : KR) (hk : h.k = 3) (hC : Calls Tryz.prog 45 #[pe p, xv h A 1 c] (w.alloc (.cells #[.int .i64 h.k, .int .i64 h.f, .int .i64 h.l, .int .i64 h.c, .string h.s, .slice A 1 c] 47)) (VP p M (w.alloc (.cells #[.int .i64 h.k, .int .i64 h.f, .int .i64 h.l, .int .i64 h.c, .string h.s, .slice A 1 c] 47)) r)) :
    Calls Tryz.prog 32 #[pe p, xv h A 1 c] w (VP p M w r) := by
  have hk1 := (Keep.refl (· = p) w).alloc (.cells #[.int .i64 h.k, .int .i64 h.f, .int .i64 h.l, .int .i64 h.c, .string h.s, .slice A 1 c] 47)
  have t1 : (h.k == 1) = false := by simp; omega
  have t2 : (h.k == 2) = false := by simp; omega
  have t3 : (h.k == 3) = true := by simp; omega
  have t4 : (h.k == 4) = false := by simp; omega
  have t5 : (h.k == 5) = false := by simp; omega
  clear hk
  replace hC := Lib.hid hC
  replace hk1 := Lib.hid hk1
  go_enter Tryz.func32, Tryz.ntmps32
  go_wp2_with fail
  (with_reducible refine hC.out.mono ?_)
  rintro e w1 ⟨m, rfl, hm, hp, hk⟩
  replace hm := Lib.hid hm
  replace hp := Lib.hid hp
  have hk2 := Lib.hid (hk1.out.both hk)
  clear hk
  go_wp2_with fail
  go_ret
  exact ⟨m, rfl, hm.out, hp.out, hk2.out⟩
set_option maxRecDepth 100000 in
set_option maxHeartbeats 1600000 in
theorem value_4 (h : XH) (A : Option Addr) (c : Nat) (w : World) (r : KR) (hk : h.k = 4) (hC : Calls Tryz.prog 46 #[pe p, xv h A 2 c] (w.alloc (.cells #[.int .i64 h.k, .int .i64 h.f, .int .i64 h.l, .int .i64 h.c, .string h.s, .slice A 2 c] 47)) (VP p M (w.alloc (.cells #[.int .i64 h.k, .int .i64 h.f, .int .i64 h.l, .int .i64 h.c, .string h.s, .slice A 2 c] 47)) r)) :
    Calls Tryz.prog 32 #[pe p, xv h A 2 c] w (VP p M w r) := by
  have hk1 := (Keep.refl (· = p) w).alloc (.cells #[.int .i64 h.k, .int .i64 h.f, .int .i64 h.l, .int .i64 h.c, .string h.s, .slice A 2 c] 47)
  have t1 : (h.k == 1) = false := by simp; omega
  have t2 : (h.k == 2) = false := by simp; omega
  have t3 : (h.k == 3) = false := by simp; omega
  have t4 : (h.k == 4) = true := by simp; omega
  have t5 : (h.k == 5) = false := by simp; omega
  clear hk
  replace hC := Lib.hid hC
  replace hk1 := Lib.hid hk1
  go_enter Tryz.func32, Tryz.ntmps32
  go_wp2_with fail
  (with_reducible refine hC.out.mono ?_)
  rintro e w1 ⟨m, rfl, hm, hp, hk⟩
  replace hm := Lib.hid hm
  replace hp := Lib.hid hp
  have hk2 := Lib.hid (hk1.out.both hk)
  clear hk
  go_wp2_with fail
  go_ret
  exact ⟨m, rfl, hm.out, hp.out, hk2.out⟩
set_option maxRecDepth 100000 in
set_option maxHeartbeats 1600000 in
theorem value_5 (h : XH) (A : Option Addr) (c : Nat) (w : World) (r : KR) (hk : h.k = 5) (hC : Calls Tryz.prog 47 #[pe p, xv h A 3 c] (w.alloc (.cells #[.int .i64 h.k, .int .i64 h.f, .int .i64 h.l, .int .i64 h.c, .string h.s, .slice A 3 c] 47)) (VP p M (w.alloc (.cells #[.int .i64 h.k, .int .i64 h.f, .int .i64 h.l, .int .i64 h.c, .string h.s, .slice A 3 c] 47)) r)) :
    Calls Tryz.prog 32 #[pe p, xv h A 3 c] w (VP p M w r) := by
  have hk1 := (Keep.refl (· = p) w).alloc (.cells #[.int .i64 h.k, .int .i64 h.f, .int .i64 h.l, .int .i64 h.c, .string h.s, .slice A 3 c] 47)
  have t1 : (h.k == 1) = false := by simp; omega
  have t2 : (h.k == 2) = false := by simp; omega
  have t3 : (h.k == 3) = false := by simp; omega
  have t4 : (h.k == 4) = false := by simp; omega
  have t5 : (h.k == 5) = true := by simp; omega
  clear hk
  replace hC := Lib.hid hC
  replace hk1 := Lib.hid hk1
  go_enter Tryz.func32, Tryz.ntmps32
  go_wp2_with fail
  (with_reducible refine hC.out.mono ?_)
  rintro e w1 ⟨m, rfl, hm, hp, hk⟩
  replace hm := Lib.hid hm
  replace hp := Lib.hid hp
  have hk2 := Lib.hid (hk1.out.both hk)
  clear hk
  go_wp2_with fail
  go_ret
  exact ⟨m, rfl, hm.out, hp.out, hk2.out⟩
set_option maxRecDepth 100000 in
set_option maxHeartbeats 1600000 in
theorem value_0 (h : XH) (A : Option Addr) (n c : Nat) (w : World) (hp : EVB w p M 0 0 0 0) (hk : 6 ≤ h.k) :
    Calls Tryz.prog 32 #[pe p, xv h A n c] w (VP p M w (badR h 12)) := by
  have hk1 := (Keep.refl (· = p) w).alloc (.cells #[.int .i64 h.k, .int .i64 h.f, .int .i64 h.l, .int .i64 h.c, .string h.s, .slice A n c] 47)
  have hC := fail_t h A n c 12 p M _ (hp.alloc (.cells #[.int .i64 h.k, .int .i64 h.f, .int .i64 h.l, .int .i64 h.c, .string h.s, .slice A n c] 47))
  have t1 : (h.k == 1) = false := by simp; omega
  have t2 : (h.k == 2) = false := by simp; omega
  have t3 : (h.k == 3) = false := by simp; omega
  have t4 : (h.k == 4) = false := by simp; omega
  have t5 : (h.k == 5) = false := by simp; omega
  clear hk
  replace hC := Lib.hid hC
  replace hk1 := Lib.hid hk1
  replace hp := Lib.hid hp
  go_enter Tryz.func32, Tryz.ntmps32
  go_wp2_with fail
  (with_reducible refine hC.out.mono ?_)
  rintro e w1 ⟨rfl, hp, hk⟩
  replace hp := Lib.hid hp
  have hk2 := Lib.hid (hk1.out.both hk)
  clear hk
  go_wp2_with fail
  go_ret
  exact ⟨_, rfl, fun h => absurd h (by simp [badR]), hp.out, hk2.out⟩
set_option maxRecDepth 100000 in
set_option maxHeartbeats 1600000 in
theorem eval_of (h : XH) (A : Option Addr) (n c : Nat) (w : World) (r : KR) (hz : Z0 r) (hp : EVB w p M 0 0 0 0) (hV : Calls Tryz.prog 32 #[pe p, xv h A n c] (w.alloc (.cells #[.int .i64 h.k, .int .i64 h.f, .int .i64 h.l, .int .i64 h.c, .string h.s, .slice A n c] 47)) (VP p M (w.alloc (.cells #[.int .i64 h.k, .int .i64 h.f, .int .i64 h.l, .int .i64 h.c, .string h.s, .slice A n c] 47)) r)) :
    Calls Tryz.prog 21 #[pe p, xv h A n c] w (FR p M w (chk h r)) := by
  have hk1 := (Keep.refl (· = p) w).alloc (.cells #[.int .i64 h.k, .int .i64 h.f, .int .i64 h.l, .int .i64 h.c, .string h.s, .slice A n c] 47)
  have hB := BX.new w 47 h A n c
  have hF := fun (W : World) (hb : EVB W p M 0 0 0 0) => fail_t h A n c 3 p M W hb
  have hpl := hp.lt
  obtain ⟨a0, a1, a2, a3, a4, af⟩ := hp.all
  replace hV := Lib.hid hV
  replace hk1 := Lib.hid hk1
  replace hB := Lib.hid hB
  replace hF := Lib.hid hF
  replace hp := Lib.hid hp
  unfold chk
  by_cases he : r.e = 0
  · rw [if_neg (by simpa using he)]
    obtain ⟨f0, l0, c0⟩ := hz.2 he
    by_cases hr : r.n < -2147483648 ∨ 2147483647 < r.n
    · rw [if_pos hr]
      go_enter Tryz.func21, Tryz.ntmps21
      go_wp2_with fail
      (with_reducible refine hV.out.mono ?_)
      rintro e w1 ⟨m, rfl, hm, hp2, hk2⟩
      obtain rfl := hm he
      rw [f0, l0, c0, he] at hp2
      have hk3 := Lib.hid (hk1.out.both hk2)
      have hB2 := hB.out.keep hk2 (by omega)
      obtain ⟨b0, b1, b2, b3, b4, b5⟩ := hB2.all
      have bl := hB2.lt
      obtain ⟨d0, d1, d2, d3, d4, df⟩ := hp2.all
      have dl := hp2.lt
      replace hp2 := Lib.hid hp2
      clear hk2 hB2 hm f0 l0 c0 he
      have g1 : (decide (r.n < -2147483648) || decide (2147483647 < r.n)) = true := by simpa using hr
      rcases hr with hr | hr
      · go_wp2_with fail
        (with_reducible refine (hF.out _ hp2.out).mono ?_)
        rintro e w2 ⟨rfl, hp4, hk4⟩
        have hk5 := Lib.hid (hk3.out.both hk4)
        replace hp4 := Lib.hid hp4
        clear hk4
        go_wp2_with fail
        go_ret
        exact ⟨rfl, hp4.out, hk5.out⟩
      · have hr2 : ¬ r.n < -2147483648 := by omega
        go_wp2_with fail
        (with_reducible refine (hF.out _ hp2.out).mono ?_)
        rintro e w2 ⟨rfl, hp4, hk4⟩
        have hk5 := Lib.hid (hk3.out.both hk4)
        replace hp4 := Lib.hid hp4
        clear hk4
        go_wp2_with fail
        go_ret
        exact ⟨rfl, hp4.out, hk5.out⟩
    · rw [if_neg hr]
      obtain ⟨r1, r2⟩ : ¬ r.n < -2147483648 ∧ ¬ 2147483647 < r.n := by omega
      clear hr
      go_enter Tryz.func21, Tryz.ntmps21
      go_wp2_with fail
      (with_reducible refine hV.out.mono ?_)
      rintro e w1 ⟨m, rfl, hm, hp2, hk2⟩
      obtain rfl := hm he
      have hk3 := Lib.hid (hk1.out.both hk2)
      have hB2 := hB.out.keep hk2 (by omega)
      obtain ⟨b0, b1, b2, b3, b4, b5⟩ := hB2.all
      have bl := hB2.lt
      obtain ⟨d0, d1, d2, d3, d4, df⟩ := hp2.all
      rw [he] at d4
      have dl := hp2.lt
      replace hp2 := Lib.hid hp2
      clear hk2 hB2 hm f0 l0 c0 he
      go_wp2_with fail
      go_ret
      exact ⟨rfl, hp2.out, hk3.out⟩
  · rw [if_pos he]
    have v1 : (r.e == 0) = false := by simpa using he
    have v2 : (r.e != 0) = true := by simpa using he
    have hn := hz.1 he
    replace he := Lib.hid he
    go_enter Tryz.func21, Tryz.ntmps21
    go_wp2_with fail
    (with_reducible refine hV.out.mono ?_)
    rintro e w1 ⟨m, rfl, hm, hp2, hk2⟩
    have hk3 := Lib.hid (hk1.out.both hk2)
    obtain ⟨d0, d1, d2, d3, d4, df⟩ := hp2.all
    have dl := hp2.lt
    replace hp2 := Lib.hid hp2
    replace hn := Lib.hid hn
    clear hk2 hm
    go_wp2_with fail
    go_ret
    exact ⟨by rw [hn.out]; rfl, hp2.out, hk3.out⟩
theorem Z0_raw (h : XH) (x y : KR) (hx : Z0 x) (hy : Z0 y) : Z0 (rawB h x y) := by
  unfold rawB
  (repeat' split) <;> first | exact Z0_ok _ | exact hx | exact hy | (refine Z0_bad h _ ?_; decide)
theorem Z0_rawU (h : XH) (x : KR) (hx : Z0 x) : Z0 (rawU h x) := by
  unfold rawU
  (repeat' split) <;> first | exact Z0_ok _ | exact hx | (refine Z0_bad h _ ?_; decide)
theorem Z0_rawT (h : XH) (x y z : KR) (hx : Z0 x) (hy : Z0 y) (hz : Z0 z) : Z0 (rawT h x y z) := by
  unfold rawT
  (repeat' split) <;> first | exact hx | exact hy | exact hz | (refine Z0_bad h _ ?_; decide)
theorem Z0_rawZ (env : ByteArray → Option Int) (h : XH) : Z0 (rawZ env h) := by
  unfold rawZ litR namR
  (repeat' split) <;> first | exact Z0_ok _ | (refine Z0_bad h _ ?_; first | assumption | decide)
theorem eval_all (hpa : ∀ s : ByteArray, (paV s).e = 0 → (paV s).n ≤ 128 ∧ (paV s).x < 2 ^ (paV s).n) : ∀ t, EvOk B p M es t
  | .z h, A, c, w, _, _, hp, hM, _, hW => by
    obtain ⟨hk, hs⟩ := hW
    have hsl : h.s.size ≤ maxLen := by unfold maxLen; omega
    refine eval_of h A 0 c w _ (Z0_rawZ _ h) hp ?_
    unfold rawZ
    rcases hk with hk | hk
    · rw [if_pos hk]
      exact value_1 h A c _ _ hk (literal_t h A 0 c p M _ ((hp.alloc _).alloc _) hsl (hpa h.s))
    · rw [if_neg (by omega)]
      exact value_2 h A c _ _ hk (name_t h A 0 c p M es _ ((hp.alloc _).alloc _) ((hM.alloc _).alloc _) hsl)
  | .u h a, A, c, w, hB, hMp, hp, hM, hX, hW => by
    have hpl := hp.lt
    refine eval_of h A 1 c w _ (Z0_rawU h _ (ev_z _ a)) hp ?_
    rcases hW.1 with ⟨hk, ho⟩ | hk
    · exact value_3 h A c _ _ hk (unary_t h a A c _ hB hMp ((hp.alloc _).alloc _) ((hM.alloc _).alloc _) (hX.over (((Below.refl B w).alloc (by omega) _).alloc (by simp; omega) _)) hW.2 hk ho (eval_all hpa a))
    · have e : rawU h (ev (envB es) a) = badR h 12 := by unfold rawU; rw [if_neg (by omega)]
      rw [e]
      exact value_0 h A 1 c _ (hp.alloc _) (by omega)
  | .b h a1 a2, A, c, w, hB, hMp, hp, hM, hX, hW => by
    have hpl := hp.lt
    refine eval_of h A 2 c w _ (Z0_raw h _ _ (ev_z _ a1) (ev_z _ a2)) hp ?_
    have hX2 : XAr _ B (.b h a1 a2) A := hX.over (((Below.refl B w).alloc (by omega) (.cells #[.int .i64 h.k, .int .i64 h.f, .int .i64 h.l, .int .i64 h.c, .string h.s, .slice A 2 c] 47)).alloc (by simp; omega) (.cells #[.int .i64 h.k, .int .i64 h.f, .int .i64 h.l, .int .i64 h.c, .string h.s, .slice A 2 c] 47))
    rcases hW.1 with ⟨hk, ho⟩ | hk
    · refine value_4 h A c _ _ hk ?_
      rcases ho with ho | ho | ho
      · exact binary_op h a1 a2 A c _ hB hMp ((hp.alloc _).alloc _) ((hM.alloc _).alloc _) hX2 hW.2.1 hW.2.2 hk (eval_all hpa a1) (eval_all hpa a2) _ rfl ho
      · exact binary_and h a1 a2 A c _ hB hMp ((hp.alloc _).alloc _) ((hM.alloc _).alloc _) hX2 hW.2.1 hW.2.2 hk (eval_all hpa a1) (eval_all hpa a2) ho
      · exact binary_or h a1 a2 A c _ hB hMp ((hp.alloc _).alloc _) ((hM.alloc _).alloc _) hX2 hW.2.1 hW.2.2 hk (eval_all hpa a1) (eval_all hpa a2) ho
    · have e : rawB h (ev (envB es) a1) (ev (envB es) a2) = badR h 12 := by unfold rawB; rw [if_neg (by omega)]
      rw [e]
      exact value_0 h A 2 c _ (hp.alloc _) (by omega)
  | .t h a1 a2 a3, A, c, w, hB, hMp, hp, hM, hX, hW => by
    have hpl := hp.lt
    refine eval_of h A 3 c w _ (Z0_rawT h _ _ _ (ev_z _ a1) (ev_z _ a2) (ev_z _ a3)) hp ?_
    have hX2 : XAr _ B (.t h a1 a2 a3) A := hX.over (((Below.refl B w).alloc (by omega) (.cells #[.int .i64 h.k, .int .i64 h.f, .int .i64 h.l, .int .i64 h.c, .string h.s, .slice A 3 c] 47)).alloc (by simp; omega) (.cells #[.int .i64 h.k, .int .i64 h.f, .int .i64 h.l, .int .i64 h.c, .string h.s, .slice A 3 c] 47))
    by_cases hk : h.k = 5
    · exact value_5 h A c _ _ hk (choice_t h a1 a2 a3 A c _ hB hMp ((hp.alloc _).alloc _) ((hM.alloc _).alloc _) hX2 hW.2.1 hW.2.2.1 hW.2.2.2 hk (eval_all hpa a1) (eval_all hpa a2) (eval_all hpa a3))
    · have e : rawT h (ev (envB es) a1) (ev (envB es) a2) (ev (envB es) a3) = badR h 12 := by unfold rawT; rw [if_neg hk]
      rw [e]
      exact value_0 h A 3 c _ (hp.alloc _) (by have := hW.1; omega)
end
end Go.Proofs.YtcifljbcoioogaaGreatDoor

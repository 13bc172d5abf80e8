/-
  The reference's Eval: what is no constant; operators of one and leaves as a whole.
-/
import Derived.Test.YtcifljbcoioogaaGreatDoorTv
namespace Go.Proofs.YtcifljbcoioogaaGreatDoor
open Go.RowKit Go.Lib Go.Maps
set_option maxRecDepth 100000 in
set_option maxHeartbeats 3200000 in
theorem rev_def (k f ln cc : Int) (s : ByteArray) (A E : Option Addr) (n c m ec : Nat) (w : World) (hk : 6 ≤ k) : Calls Tryz.prog 12 #[xv ⟨k, f, ln, cc, s⟩ A n c, .slice E m ec] w (RE w (badR ⟨k, f, ln, cc, s⟩ 12)) := by
      have hB := fun (e : Int) W => rbad_t ⟨k, f, ln, cc, s⟩ A n c e W
      have hI0 := RI.new w ⟨k, f, ln, cc, s⟩ A n c
      have t1 : (k == 1) = false := by simp; omega
      have t2 : (k == 2) = false := by simp; omega
      have t3 : (k == 3) = false := by simp; omega
      have t4 : (k == 4) = false := by simp; omega
      have t5 : (k == 5) = false := by simp; omega
      clear hk
      unfold RE ov at *
      unfold badR at hB ⊢
      obtain ⟨b0, b1, b2, b3, b4, b5⟩ := hI0.x.all
      have bl := hI0.x.lt
      replace hB := Lib.hid hB
      replace hI0 := Lib.hid hI0
      go_enter Tryz.func12, Tryz.ntmps12
      go_wp2_with fail
      (with_reducible refine (hB.out _ _).mono ?_)
      rintro e0 w1 ⟨rfl, hb1⟩
      have hI1 := Lib.hid (hI0.out.over hb1)
      obtain ⟨b10, b11, b12, b13, b14, b15⟩ := hI1.out.x.all
      obtain ⟨o10, o11, o12, o13, o14, o1f, o1l⟩ := hI1.out.o.all
      have b1l := hI1.out.x.lt
      clear hb1
      go_wp2_with fail
      have hz := hI1.out.k
      refine bodyPost_ret (v := .agg #[.int .i64 0, .int .i64 f, .int .i64 ln, .int .i64 cc, .int .i64 12]) (by simp [results, Tryz.results12, go_sem, o10, o11, o12, o13, o14]) rfl ⟨rfl, ?_⟩
      go_grown
set_option maxRecDepth 100000 in
set_option maxHeartbeats 3200000 in
theorem rev_un_b0 (k f ln cc : Int) (s : ByteArray) (A E : Option Addr) (n c m ec : Nat) (w : World) (hk : k = 3) (hs : s.toList = [38]) : Calls Tryz.prog 12 #[xv ⟨k, f, ln, cc, s⟩ A n c, .slice E m ec] w (RE w (badR ⟨k, f, ln, cc, s⟩ 12)) := by
      have hB := fun (e : Int) W => rbad_t ⟨k, f, ln, cc, s⟩ A n c e W
      have hI0 := RI.new w ⟨k, f, ln, cc, s⟩ A n c
      subst hk
      unfold RE ov at *
      unfold badR at hB ⊢
      obtain ⟨b0, b1, b2, b3, b4, b5⟩ := hI0.x.all
      have bl := hI0.x.lt
      replace hB := Lib.hid hB
      replace hI0 := Lib.hid hI0
      go_enter Tryz.func12, Tryz.ntmps12
      go_wp2_with fail
      (with_reducible refine (hB.out _ _).mono ?_)
      rintro e0 w1 ⟨rfl, hb1⟩
      have hI1 := Lib.hid (hI0.out.over hb1)
      obtain ⟨b10, b11, b12, b13, b14, b15⟩ := hI1.out.x.all
      obtain ⟨o10, o11, o12, o13, o14, o1f, o1l⟩ := hI1.out.o.all
      have b1l := hI1.out.x.lt
      clear hb1
      go_wp2_with fail
      have hz := hI1.out.k
      refine bodyPost_ret (v := .agg #[.int .i64 0, .int .i64 f, .int .i64 ln, .int .i64 cc, .int .i64 12]) (by simp [results, Tryz.results12, go_sem, o10, o11, o12, o13, o14]) rfl ⟨rfl, ?_⟩
      go_grown
set_option maxRecDepth 100000 in
set_option maxHeartbeats 3200000 in
theorem rev_un_b1 (k f ln cc : Int) (s : ByteArray) (A E : Option Addr) (n c m ec : Nat) (w : World) (hk : k = 3) (hs : s.toList = [124]) : Calls Tryz.prog 12 #[xv ⟨k, f, ln, cc, s⟩ A n c, .slice E m ec] w (RE w (badR ⟨k, f, ln, cc, s⟩ 12)) := by
      have hB := fun (e : Int) W => rbad_t ⟨k, f, ln, cc, s⟩ A n c e W
      have hI0 := RI.new w ⟨k, f, ln, cc, s⟩ A n c
      subst hk
      unfold RE ov at *
      unfold badR at hB ⊢
      obtain ⟨b0, b1, b2, b3, b4, b5⟩ := hI0.x.all
      have bl := hI0.x.lt
      replace hB := Lib.hid hB
      replace hI0 := Lib.hid hI0
      go_enter Tryz.func12, Tryz.ntmps12
      go_wp2_with fail
      (with_reducible refine (hB.out _ _).mono ?_)
      rintro e0 w1 ⟨rfl, hb1⟩
      have hI1 := Lib.hid (hI0.out.over hb1)
      obtain ⟨b10, b11, b12, b13, b14, b15⟩ := hI1.out.x.all
      obtain ⟨o10, o11, o12, o13, o14, o1f, o1l⟩ := hI1.out.o.all
      have b1l := hI1.out.x.lt
      clear hb1
      go_wp2_with fail
      have hz := hI1.out.k
      refine bodyPost_ret (v := .agg #[.int .i64 0, .int .i64 f, .int .i64 ln, .int .i64 cc, .int .i64 12]) (by simp [results, Tryz.results12, go_sem, o10, o11, o12, o13, o14]) rfl ⟨rfl, ?_⟩
      go_grown
set_option maxRecDepth 100000 in
set_option maxHeartbeats 3200000 in
theorem rev_un_b2 (k f ln cc : Int) (s : ByteArray) (A E : Option Addr) (n c m ec : Nat) (w : World) (hk : k = 3) (hs : s.toList = [94]) : Calls Tryz.prog 12 #[xv ⟨k, f, ln, cc, s⟩ A n c, .slice E m ec] w (RE w (badR ⟨k, f, ln, cc, s⟩ 12)) := by
      have hB := fun (e : Int) W => rbad_t ⟨k, f, ln, cc, s⟩ A n c e W
      have hI0 := RI.new w ⟨k, f, ln, cc, s⟩ A n c
      subst hk
      unfold RE ov at *
      unfold badR at hB ⊢
      obtain ⟨b0, b1, b2, b3, b4, b5⟩ := hI0.x.all
      have bl := hI0.x.lt
      replace hB := Lib.hid hB
      replace hI0 := Lib.hid hI0
      go_enter Tryz.func12, Tryz.ntmps12
      go_wp2_with fail
      (with_reducible refine (hB.out _ _).mono ?_)
      rintro e0 w1 ⟨rfl, hb1⟩
      have hI1 := Lib.hid (hI0.out.over hb1)
      obtain ⟨b10, b11, b12, b13, b14, b15⟩ := hI1.out.x.all
      obtain ⟨o10, o11, o12, o13, o14, o1f, o1l⟩ := hI1.out.o.all
      have b1l := hI1.out.x.lt
      clear hb1
      go_wp2_with fail
      have hz := hI1.out.k
      refine bodyPost_ret (v := .agg #[.int .i64 0, .int .i64 f, .int .i64 ln, .int .i64 cc, .int .i64 12]) (by simp [results, Tryz.results12, go_sem, o10, o11, o12, o13, o14]) rfl ⟨rfl, ?_⟩
      go_grown
set_option maxRecDepth 100000 in
set_option maxHeartbeats 3200000 in
theorem rev_un_b3 (k f ln cc : Int) (s : ByteArray) (A E : Option Addr) (n c m ec : Nat) (w : World) (hk : k = 3) (hs : s.toList = [126, 38]) : Calls Tryz.prog 12 #[xv ⟨k, f, ln, cc, s⟩ A n c, .slice E m ec] w (RE w (badR ⟨k, f, ln, cc, s⟩ 12)) := by
      have hB := fun (e : Int) W => rbad_t ⟨k, f, ln, cc, s⟩ A n c e W
      have hI0 := RI.new w ⟨k, f, ln, cc, s⟩ A n c
      subst hk
      unfold RE ov at *
      unfold badR at hB ⊢
      obtain ⟨b0, b1, b2, b3, b4, b5⟩ := hI0.x.all
      have bl := hI0.x.lt
      replace hB := Lib.hid hB
      replace hI0 := Lib.hid hI0
      go_enter Tryz.func12, Tryz.ntmps12
      go_wp2_with fail
      (with_reducible refine (hB.out _ _).mono ?_)
      rintro e0 w1 ⟨rfl, hb1⟩
      have hI1 := Lib.hid (hI0.out.over hb1)
      obtain ⟨b10, b11, b12, b13, b14, b15⟩ := hI1.out.x.all
      obtain ⟨o10, o11, o12, o13, o14, o1f, o1l⟩ := hI1.out.o.all
      have b1l := hI1.out.x.lt
      clear hb1
      go_wp2_with fail
      have hz := hI1.out.k
      refine bodyPost_ret (v := .agg #[.int .i64 0, .int .i64 f, .int .i64 ln, .int .i64 cc, .int .i64 12]) (by simp [results, Tryz.results12, go_sem, o10, o11, o12, o13, o14]) rfl ⟨rfl, ?_⟩
      go_grown
set_option maxRecDepth 100000 in
set_option maxHeartbeats 3200000 in
theorem rev_un_b4 (k f ln cc : Int) (s : ByteArray) (A E : Option Addr) (n c m ec : Nat) (w : World) (hk : k = 3) (hs : s.toList = [126, 124]) : Calls Tryz.prog 12 #[xv ⟨k, f, ln, cc, s⟩ A n c, .slice E m ec] w (RE w (badR ⟨k, f, ln, cc, s⟩ 12)) := by
      have hB := fun (e : Int) W => rbad_t ⟨k, f, ln, cc, s⟩ A n c e W
      have hI0 := RI.new w ⟨k, f, ln, cc, s⟩ A n c
      subst hk
      unfold RE ov at *
      unfold badR at hB ⊢
      obtain ⟨b0, b1, b2, b3, b4, b5⟩ := hI0.x.all
      have bl := hI0.x.lt
      replace hB := Lib.hid hB
      replace hI0 := Lib.hid hI0
      go_enter Tryz.func12, Tryz.ntmps12
      go_wp2_with fail
      (with_reducible refine (hB.out _ _).mono ?_)
      rintro e0 w1 ⟨rfl, hb1⟩
      have hI1 := Lib.hid (hI0.out.over hb1)
      obtain ⟨b10, b11, b12, b13, b14, b15⟩ := hI1.out.x.all
      obtain ⟨o10, o11, o12, o13, o14, o1f, o1l⟩ := hI1.out.o.all
      have b1l := hI1.out.x.lt
      clear hb1
      go_wp2_with fail
      have hz := hI1.out.k
      refine bodyPost_ret (v := .agg #[.int .i64 0, .int .i64 f, .int .i64 ln, .int .i64 cc, .int .i64 12]) (by simp [results, Tryz.results12, go_sem, o10, o11, o12, o13, o14]) rfl ⟨rfl, ?_⟩
      go_grown
set_option maxRecDepth 100000 in
set_option maxHeartbeats 3200000 in
theorem rev_un_b5 (k f ln cc : Int) (s : ByteArray) (A E : Option Addr) (n c m ec : Nat) (w : World) (hk : k = 3) (hs : s.toList = [126, 94]) : Calls Tryz.prog 12 #[xv ⟨k, f, ln, cc, s⟩ A n c, .slice E m ec] w (RE w (badR ⟨k, f, ln, cc, s⟩ 12)) := by
      have hB := fun (e : Int) W => rbad_t ⟨k, f, ln, cc, s⟩ A n c e W
      have hI0 := RI.new w ⟨k, f, ln, cc, s⟩ A n c
      subst hk
      unfold RE ov at *
      unfold badR at hB ⊢
      obtain ⟨b0, b1, b2, b3, b4, b5⟩ := hI0.x.all
      have bl := hI0.x.lt
      replace hB := Lib.hid hB
      replace hI0 := Lib.hid hI0
      go_enter Tryz.func12, Tryz.ntmps12
      go_wp2_with fail
      (with_reducible refine (hB.out _ _).mono ?_)
      rintro e0 w1 ⟨rfl, hb1⟩
      have hI1 := Lib.hid (hI0.out.over hb1)
      obtain ⟨b10, b11, b12, b13, b14, b15⟩ := hI1.out.x.all
      obtain ⟨o10, o11, o12, o13, o14, o1f, o1l⟩ := hI1.out.o.all
      have b1l := hI1.out.x.lt
      clear hb1
      go_wp2_with fail
      have hz := hI1.out.k
      refine bodyPost_ret (v := .agg #[.int .i64 0, .int .i64 f, .int .i64 ln, .int .i64 cc, .int .i64 12]) (by simp [results, Tryz.results12, go_sem, o10, o11, o12, o13, o14]) rfl ⟨rfl, ?_⟩
      go_grown
theorem rev_u (h : XH) (t1 : XT) (E : Option Addr) (l : List NE) (ec : Nat) (A : Option Addr) (c : Nat) (w : World) (hN : NOk w E l) (hX : XAr w w.heap.size (.u h t1) A) (hW : WX (.u h t1)) (i1 : ROk E l ec t1) :
    Calls Tryz.prog 12 #[xv h A 1 c, .slice E l.length ec] w (RE w (ev (lookN l) (.u h t1))) := by
  obtain ⟨b, o, rfl, hb, A1, c1, x1, y1⟩ := hX
  have e1 := fun W (q : Below w.heap.size w W) => i1 A1 c1 W (hN.over q) ((y1.over q).mono q.size) hW.2
  have hin := z_in (ev_z (lookN l) t1) (ev_in (lookN l) t1)
  have hv : ev (lookN l) (.u h t1) = chk h (rawU h (ev (lookN l) t1)) := rfl
  rw [hv]
  have hce := chk_ev h (lookN l) t1
  obtain ⟨x, hx⟩ : ∃ x, ev (lookN l) t1 = x := ⟨_, rfl⟩
  rw [hx] at e1 hin hce ⊢
  obtain ⟨k, f, ln, cc, s⟩ := h
  have hcb := chk_bad ⟨k, f, ln, cc, s⟩ ⟨k, f, ln, cc, s⟩ 12 (by decide)
  rcases hW.1 with ⟨hk, ho⟩ | hk
  · dsimp only at hk ho
    unfold rawU
    rw [if_pos hk]
    dsimp only
    simp only [un9, List.mem_cons, List.not_mem_nil, or_false] at ho
    rcases ho with ho | ho | ho | ho | ho | ho | ho | ho | ho
    · rw [ho, if_pos (by decide)]
      have := rev_un_neg k f ln cc s _ _ _ _ b o E c _ ec w x hk ho x1 hb hin e1
      by_cases h0 : x.e = 0
      · rw [if_neg (by simpa using h0)] at this ⊢
        exact this
      · rw [if_pos h0] at this ⊢
        rw [hce]; exact this
    · rw [ho, if_pos (by decide)]
      have := rev_un_not k f ln cc s _ _ _ _ b o E c _ ec w x hk ho x1 hb hin e1
      by_cases h0 : x.e = 0
      · rw [if_neg (by simpa using h0)] at this ⊢
        exact this
      · rw [if_pos h0] at this ⊢
        rw [hce]; exact this
    · rw [ho, if_pos (by decide)]
      have := rev_un_bang k f ln cc s _ _ _ _ b o E c _ ec w x hk ho x1 hb hin e1
      by_cases h0 : x.e = 0
      · rw [if_neg (by simpa using h0)] at this ⊢
        have hi : InR (unV [33] x.n) := by show InR (ofB _); unfold InR ofB; split <;> omega
        rw [chk_in hi]
        exact this
      · rw [if_pos h0] at this ⊢
        rw [hce]; exact this
    · rw [ho, if_neg (by decide), hcb]
      exact rev_un_b0 k f ln cc s _ E 1 c _ ec w hk ho
    · rw [ho, if_neg (by decide), hcb]
      exact rev_un_b1 k f ln cc s _ E 1 c _ ec w hk ho
    · rw [ho, if_neg (by decide), hcb]
      exact rev_un_b2 k f ln cc s _ E 1 c _ ec w hk ho
    · rw [ho, if_neg (by decide), hcb]
      exact rev_un_b3 k f ln cc s _ E 1 c _ ec w hk ho
    · rw [ho, if_neg (by decide), hcb]
      exact rev_un_b4 k f ln cc s _ E 1 c _ ec w hk ho
    · rw [ho, if_neg (by decide), hcb]
      exact rev_un_b5 k f ln cc s _ E 1 c _ ec w hk ho
  · have e : rawU ⟨k, f, ln, cc, s⟩ x = badR ⟨k, f, ln, cc, s⟩ 12 := by unfold rawU; rw [if_neg (by dsimp only at hk ⊢; omega)]
    rw [e, hcb]
    exact rev_def k f ln cc s _ E 1 c _ ec w (by dsimp only at hk; omega)
theorem look_in (l : List NE) (hr : ∀ j (hj : j < l.length), InR l[j].2) (s : ByteArray) (v : Int) (hv : lookN l s = some v) : InR v := by
  have key : ∀ (l : List NE) (e0 : List UInt8 → Option Int), (∀ j (hj : j < l.length), InR l[j].2) → (∀ s v, e0 s = some v → InR v) → ∀ s v, ((keyL l).foldl stepE e0) s = some v → InR v := by
    intro l
    induction l with
    | nil => intro e0 _ h; exact h
    | cons x l ih =>
      intro e0 h1 h2
      refine ih (stepE e0 (x.1.data.toList, x.2)) (fun j hj => h1 (j + 1) (Nat.succ_lt_succ hj)) ?_
      intro s v
      unfold stepE
      split
      · intro e; cases e; exact h1 0 (Nat.zero_lt_succ _)
      · exact h2 s v
  exact key l _ hr (fun _ _ h => by cases h) _ _ hv
theorem rev_z (h : XH) (E : Option Addr) (l : List NE) (ec : Nat) (A : Option Addr) (c : Nat) (w : World) (hN : NOk w E l) (hW : WX (.z h)) :
    Calls Tryz.prog 12 #[xv h A 0 c, .slice E l.length ec] w (RE w (ev (lookN l) (.z h))) := by
  have hs : h.s.size ≤ maxLen := by have := hW.2; unfold maxLen; omega
  have hv : ev (lookN l) (.z h) = chk h (rawZ (lookN l) h) := rfl
  rw [hv]
  unfold rawZ
  rcases hW.1 with hk | hk
  · rw [if_pos hk, chk_lit]
    exact rev_num h A E c _ ec w hk hs
  · rw [if_neg (by omega)]
    obtain ⟨k, f, ln, cc, s⟩ := h
    have := rev_name k f ln cc s A E c ec l w hk hs hN.s hN.e hN.m hN.r
    have e : chk ⟨k, f, ln, cc, s⟩ (namR (lookN l) ⟨k, f, ln, cc, s⟩) = namR (lookN l) ⟨k, f, ln, cc, s⟩ := by
      unfold namR
      split
      · rename_i v hv
        refine chk_in ?_
        refine look_in l hN.r _ _ hv
      · exact chk_bad _ _ 9 (by decide)
    rw [e]
    exact this
end Go.Proofs.YtcifljbcoioogaaGreatDoor

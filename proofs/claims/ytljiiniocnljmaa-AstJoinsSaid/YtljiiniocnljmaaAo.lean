/-
  The walk of AstJoins.
-/
import Derived.Test.YtljiiniocnljmaaAk
import Derived.Test.YtljiiniocnljmaaAq
import Derived.Shelf.SlSorted.Search
import Derived.Deep.Cut
namespace Go.Proofs.Ytljiiniocnljmaa
open Go.RowKit Go.Lib Go.Maps
set_option maxRecDepth 100000 in
set_option maxHeartbeats 12800000 in
theorem joins_t (P : Option Addr) (pn pc : Nat) (R : Option Addr) (rn rc : Nat) (w : World) (hP : BY w P pn) (hpc : pn ≤ pc) (hp47 : pc ≤ 9223372036854775807) (hR : BY w R rn) (hrc : rn ≤ rc) (hr47 : rc ≤ 9223372036854775807) :
    Calls Try.prog 4 #[.slice P pn pc, .slice R rn rc] w (RV w (.bool true)) := by
  have hAw := awake_t w
  have hShx := fun W => Short_t P pn pc W hpc hp47 fun h0 => by
    obtain ⟨b, o, e, _⟩ := hP h0
    exact ⟨b, o, e⟩
  have hShy := fun W => Short_t R rn rc W hrc hr47 fun h0 => by
    obtain ⟨b, o, e, _⟩ := hR h0
    exact ⟨b, o, e⟩
  unfold RV at hAw
  have hMk := fun (W : World) (p : Nat) (q : MKm W p (p + 1)) => MakeExpr_t p (p + 1) 3 4 W (by decide) (by decide) q
  unfold MXm at hMk
  have hBx := hP
  have hBy := hR
  replace hAw := Lib.hid hAw
  replace hShx := Lib.hid hShx
  replace hShy := Lib.hid hShy
  replace hMk := Lib.hid hMk
  replace hBx := Lib.hid hBx
  replace hBy := Lib.hid hBy
  clear hP hR
  go_enter Try.func4, Try.ntmps4
  go_wp2_with fail
  (with_reducible refine hAw.out.mono ?_)
  rintro e w2 ⟨rfl, hkx⟩
  -- x
  obtain ⟨gbx, hgbx⟩ : ∃ gb, w2.heap.size = gb := ⟨_, rfl⟩
  have hgwx : w.heap.size ≤ gbx := hgbx ▸ hkx.size
  replace hkx := Lib.hid hkx
  go_wp2_with fail
  (with_reducible refine (hShx.out _).mono ?_)
  rintro e w' ⟨nx', hnx', hnx3, rfl, hwq⟩
  replace hwq := hwq.symm
  subst hwq
  have hMKx := (hBx.out.over hkx.out).mk (c := pc) hnx' hnx3
  have hbmx := (Below.refl w2.heap.size w2).alloc (Nat.le_refl _) (.cells #[.slice P nx' pc, .int .i64 0] 27)
  have hkx3 := below_call hbmx hkx.out
  rw [hgbx] at hMKx
  replace hMKx := Lib.hid hMKx
  replace hkx3 := Lib.hid hkx3
  replace hbmx := Lib.hid hbmx
  go_wp2_with fail
  (with_reducible refine (hMk.out _ _ hMKx.out).mono ?_)
  rintro e x4 ⟨tx, Ax1, cx1, rfl, hWx, hdx, hXx, _, hkx4⟩
  have hXx4 : XQ x4 (· < x4.heap.size) tx Ax1 := hXx.over (fun _ _ => rfl) fun b hb => hb.2
  have hzx3 : w2.heap.size + 1 = (w2.alloc (.cells #[.slice P nx' pc, .int .i64 0] 27)).heap.size := by simp
  have hbx4 : Below w2.heap.size w2 x4 := hbmx.out.trans (hkx4.below (by omega) fun b hb => by omega)
  have hOwx := fun W (q : XQ W (· < W.heap.size) tx Ax1) => Own_all tx Ax1 cx1 W q
  unfold TRt at hOwx
  obtain ⟨nx, hnx⟩ : ∃ n, tx.args.length = n := ⟨_, rfl⟩
  rw [hnx] at hOwx ⊢
  clear hXx hkx4 hMKx hkx3 hbmx hzx3
  replace hXx4 := Lib.hid hXx4
  replace hbx4 := Lib.hid hbx4
  replace hOwx := Lib.hid hOwx
  go_wp2_with fail
  (with_reducible refine (hOwx.out _ hXx4.out).mono ?_)
  rintro e x5 ⟨Ax, cx, rfl, hXx5, hbx5⟩
  have hbx6 := (Below.refl x5.heap.size x5).alloc (Nat.le_refl _) (.cells #[.int .i64 tx.h.k, .int .i64 tx.h.f, .int .i64 tx.h.l, .int .i64 tx.h.c, .string tx.h.s, .slice Ax nx cx] 36)
  have hMx := BX.new x5 36 tx.h Ax nx cx
  have hQx : XQ x5 (· < x5.heap.size) tx Ax := hXx5.over (fun _ _ => rfl) fun b hb => hb.2
  have hQx6 := hQx.belowed' hbx6
  have hBx6 : Below w2.heap.size w2 (x5.alloc (.cells #[.int .i64 tx.h.k, .int .i64 tx.h.f, .int .i64 tx.h.l, .int .i64 tx.h.c, .string tx.h.s, .slice Ax nx cx] 36)) := (hbx4.out.trans (hbx5.mono hbx4.out.size)).trans (hbx6.mono (Nat.le_trans hbx4.out.size hbx5.size))
  obtain ⟨gx, hgx⟩ : ∃ g, x5.heap.size = g := ⟨_, rfl⟩
  rw [hgx] at hMx
  have hKx := below_call hBx6 hkx.out
  clear hbx4 hXx4 hOwx hXx5 hbx5 hbx6 hQx
  go_upto_region 4 with fail
  obtain ⟨zx, hzx⟩ : ∃ W, x5.alloc (.cells #[.int .i64 tx.h.k, .int .i64 tx.h.f, .int .i64 tx.h.l, .int .i64 tx.h.c, .string tx.h.s, .slice Ax nx cx] 36) = W := ⟨_, rfl⟩
  rw [hzx] at hMx hQx6 hKx hBx6 ⊢
  clear hzx hgx hkx hgbx hgwx
  have hky := hKx
  replace hMx := Lib.hid hMx
  replace hQx6 := Lib.hid hQx6
  clear hKx hBx6
  -- y
  obtain ⟨gby, hgby⟩ : ∃ gb, zx.heap.size = gb := ⟨_, rfl⟩
  have hgwy : w.heap.size ≤ gby := hgby ▸ hky.size
  replace hky := Lib.hid hky
  go_wp2_with fail
  (with_reducible refine (hShy.out _).mono ?_)
  rintro e w' ⟨ny', hny', hny3, rfl, hwq⟩
  replace hwq := hwq.symm
  subst hwq
  have hMKy := (hBy.out.over hky.out).mk (c := rc) hny' hny3
  have hbmy := (Below.refl zx.heap.size zx).alloc (Nat.le_refl _) (.cells #[.slice R ny' rc, .int .i64 0] 27)
  have hky3 := below_call hbmy hky.out
  rw [hgby] at hMKy
  replace hMKy := Lib.hid hMKy
  replace hky3 := Lib.hid hky3
  replace hbmy := Lib.hid hbmy
  go_wp2_with fail
  (with_reducible refine (hMk.out _ _ hMKy.out).mono ?_)
  rintro e y4 ⟨ty, Ay1, cy1, rfl, hWy, hdy, hXy, _, hky4⟩
  have hXy4 : XQ y4 (· < y4.heap.size) ty Ay1 := hXy.over (fun _ _ => rfl) fun b hb => hb.2
  have hzy3 : zx.heap.size + 1 = (zx.alloc (.cells #[.slice R ny' rc, .int .i64 0] 27)).heap.size := by simp
  have hby4 : Below zx.heap.size zx y4 := hbmy.out.trans (hky4.below (by omega) fun b hb => by omega)
  have hOwy := fun W (q : XQ W (· < W.heap.size) ty Ay1) => Own_all ty Ay1 cy1 W q
  unfold TRt at hOwy
  obtain ⟨ny, hny⟩ : ∃ n, ty.args.length = n := ⟨_, rfl⟩
  rw [hny] at hOwy ⊢
  clear hXy hky4 hMKy hky3 hbmy hzy3
  replace hXy4 := Lib.hid hXy4
  replace hby4 := Lib.hid hby4
  replace hOwy := Lib.hid hOwy
  go_wp2_with fail
  (with_reducible refine (hOwy.out _ hXy4.out).mono ?_)
  rintro e y5 ⟨Ay, cy, rfl, hXy5, hby5⟩
  have hby6 := (Below.refl y5.heap.size y5).alloc (Nat.le_refl _) (.cells #[.int .i64 ty.h.k, .int .i64 ty.h.f, .int .i64 ty.h.l, .int .i64 ty.h.c, .string ty.h.s, .slice Ay ny cy] 36)
  have hMy := BX.new y5 36 ty.h Ay ny cy
  have hQy : XQ y5 (· < y5.heap.size) ty Ay := hXy5.over (fun _ _ => rfl) fun b hb => hb.2
  have hQy6 := hQy.belowed' hby6
  have hBy6 : Below zx.heap.size zx (y5.alloc (.cells #[.int .i64 ty.h.k, .int .i64 ty.h.f, .int .i64 ty.h.l, .int .i64 ty.h.c, .string ty.h.s, .slice Ay ny cy] 36)) := (hby4.out.trans (hby5.mono hby4.out.size)).trans (hby6.mono (Nat.le_trans hby4.out.size hby5.size))
  obtain ⟨gy, hgy⟩ : ∃ g, y5.heap.size = g := ⟨_, rfl⟩
  rw [hgy] at hMy
  have hKy := below_call hBy6 hky.out
  clear hby4 hXy4 hOwy hXy5 hby5 hby6 hQy
  go_upto_region 5 with fail
  obtain ⟨zy, hzy⟩ : ∃ W, y5.alloc (.cells #[.int .i64 ty.h.k, .int .i64 ty.h.f, .int .i64 ty.h.l, .int .i64 ty.h.c, .string ty.h.s, .slice Ay ny cy] 36) = W := ⟨_, rfl⟩
  rw [hzy] at hMy hQy6 hKy hBy6 ⊢
  clear hzy hgy hky hgby hgwy
  have hMx2 := hMx.out.ov hBy6
  have hQx2 := hQx6.out.belowed' hBy6
  clear hMx hQx6 hBy6 hMk
  obtain ⟨p0, p1, p2, p3, p4, p5⟩ := hMx2.all
  obtain ⟨r0, r1, r2, r3, r4, r5⟩ := hMy.all
  have pl := hMx2.lt
  have rl := hMy.lt
  -- the expression of both
  have hbr := (Below.refl zy.heap.size zy).alloc (Nat.le_refl _) (.cells #[.int .i64 tx.h.k, .int .i64 tx.h.f, .int .i64 tx.h.l, .int .i64 tx.h.c, .string tx.h.s, .slice Ax nx cx, .int .i64 ty.h.k, .int .i64 ty.h.f, .int .i64 ty.h.l, .int .i64 ty.h.c, .string ty.h.s, .slice Ay ny cy] 36)
  have hRw := heap_alloc_new zy (.cells #[.int .i64 tx.h.k, .int .i64 tx.h.f, .int .i64 tx.h.l, .int .i64 tx.h.c, .string tx.h.s, .slice Ax nx cx, .int .i64 ty.h.k, .int .i64 ty.h.f, .int .i64 ty.h.l, .int .i64 ty.h.c, .string ty.h.s, .slice Ay ny cy] 36)
  obtain ⟨gr, hgr⟩ : ∃ g, zy.heap.size = g := ⟨_, rfl⟩
  have hzr : (zy.alloc (.cells #[.int .i64 tx.h.k, .int .i64 tx.h.f, .int .i64 tx.h.l, .int .i64 tx.h.c, .string tx.h.s, .slice Ax nx cx, .int .i64 ty.h.k, .int .i64 ty.h.f, .int .i64 ty.h.l, .int .i64 ty.h.c, .string ty.h.s, .slice Ay ny cy] 36)).heap.size = gr + 1 := by simp [hgr]
  rw [hgr] at hRw
  have hbe := (Below.refl (zy.alloc (.cells #[.int .i64 tx.h.k, .int .i64 tx.h.f, .int .i64 tx.h.l, .int .i64 tx.h.c, .string tx.h.s, .slice Ax nx cx, .int .i64 ty.h.k, .int .i64 ty.h.f, .int .i64 ty.h.l, .int .i64 ty.h.c, .string ty.h.s, .slice Ay ny cy] 36)).heap.size (zy.alloc (.cells #[.int .i64 tx.h.k, .int .i64 tx.h.f, .int .i64 tx.h.l, .int .i64 tx.h.c, .string tx.h.s, .slice Ax nx cx, .int .i64 ty.h.k, .int .i64 ty.h.f, .int .i64 ty.h.l, .int .i64 ty.h.c, .string ty.h.s, .slice Ay ny cy] 36))).alloc (Nat.le_refl _) (.cells #[.int .i64 6, .int .i64 0, .int .i64 0, .int .i64 0, .string ⟨#[]⟩, .slice (some ⟨gr, 0, none⟩) 2 2] 36)
  have hEv := BX.new (zy.alloc (.cells #[.int .i64 tx.h.k, .int .i64 tx.h.f, .int .i64 tx.h.l, .int .i64 tx.h.c, .string tx.h.s, .slice Ax nx cx, .int .i64 ty.h.k, .int .i64 ty.h.f, .int .i64 ty.h.l, .int .i64 ty.h.c, .string ty.h.s, .slice Ay ny cy] 36)) 36 ⟨6, 0, 0, 0, ⟨#[]⟩⟩ (some ⟨gr, 0, none⟩) 2 2
  have hze : ((zy.alloc (.cells #[.int .i64 tx.h.k, .int .i64 tx.h.f, .int .i64 tx.h.l, .int .i64 tx.h.c, .string tx.h.s, .slice Ax nx cx, .int .i64 ty.h.k, .int .i64 ty.h.f, .int .i64 ty.h.l, .int .i64 ty.h.c, .string ty.h.s, .slice Ay ny cy] 36)).alloc (.cells #[.int .i64 6, .int .i64 0, .int .i64 0, .int .i64 0, .string ⟨#[]⟩, .slice (some ⟨gr, 0, none⟩) 2 2] 36)).heap.size = gr + 2 := by simp [hgr]
  rw [hzr] at hEv
  have hRe := (hbe.block gr (by omega)).trans hRw
  have hMx3 := (hMx2.ov hbr).ov hbe
  have hMy3 := (hMy.ov hbr).ov hbe
  have hQx3 := (hQx2.belowed' hbr).belowed' hbe
  have hQy3 := (hQy6.belowed' hbr).belowed' hbe
  have hK3 := below_call hbe (below_call hbr hKy)
  go_upto_region 6 with fail
  obtain ⟨ze, hzeq⟩ : ∃ W, (zy.alloc (.cells #[.int .i64 tx.h.k, .int .i64 tx.h.f, .int .i64 tx.h.l, .int .i64 tx.h.c, .string tx.h.s, .slice Ax nx cx, .int .i64 ty.h.k, .int .i64 ty.h.f, .int .i64 ty.h.l, .int .i64 ty.h.c, .string ty.h.s, .slice Ay ny cy] 36)).alloc (.cells #[.int .i64 6, .int .i64 0, .int .i64 0, .int .i64 0, .string ⟨#[]⟩, .slice (some ⟨gr, 0, none⟩) 2 2] 36) = W := ⟨_, rfl⟩
  have hEv' : BX ((zy.alloc (.cells #[.int .i64 tx.h.k, .int .i64 tx.h.f, .int .i64 tx.h.l, .int .i64 tx.h.c, .string tx.h.s, .slice Ax nx cx, .int .i64 ty.h.k, .int .i64 ty.h.f, .int .i64 ty.h.l, .int .i64 ty.h.c, .string ty.h.s, .slice Ay ny cy] 36)).alloc (.cells #[.int .i64 6, .int .i64 0, .int .i64 0, .int .i64 0, .string ⟨#[]⟩, .slice (some ⟨gr, 0, none⟩) 2 2] 36)) (gr + 1) 36 ⟨6, 0, 0, 0, ⟨#[]⟩⟩ (some ⟨gr, 0, none⟩) 2 2 := hEv
  rw [hzeq] at hEv' hRe hMx3 hMy3 hQx3 hQy3 hK3 hze ⊢
  clear hzeq hEv hbr hbe hRw hzr hMx2 hMy hQx2 hQy6 hKy p0 p1 p2 p3 p4 p5 r0 r1 r2 r3 r4 r5 pl rl
  have hpc2 := pair_cells hRe
  obtain ⟨TE, hTE⟩ : ∃ T, XT.b ⟨6, 0, 0, 0, ⟨#[]⟩⟩ tx ty = T := ⟨_, rfl⟩
  have hQe : XQ ze (· < ze.heap.size) TE (some ⟨gr, 0, none⟩) := by
    rw [← hTE]
    have e1 := hpc2.1
    have e2 := hpc2.2
    rw [← hnx] at e1
    rw [← hny] at e2
    exact ⟨gr, 0, rfl, by omega, ⟨Ax, cx, e1, hQx3⟩, Ay, cy, e2, hQy3⟩
  -- what the contracts say
  have hndx : tx.nds ≤ 2000 := by
    have h1 := nds_dep tx
    have h2 : 4 ^ (tx.dep + 1) ≤ 4 ^ 5 := Nat.pow_le_pow_right (by decide) (by omega)
    omega
  have hndy : ty.nds ≤ 2000 := by
    have h1 := nds_dep ty
    have h2 : 4 ^ (ty.dep + 1) ≤ 4 ^ 5 := Nat.pow_le_pow_right (by decide) (by omega)
    omega
  have hdE : TE.dep = max tx.dep ty.dep + 1 := by rw [← hTE]; rfl
  have hnE : TE.nds = tx.nds + ty.nds + 1 := by rw [← hTE]; rfl
  have hNx := fun (A : Option Addr) (c : Nat) W (q : XQ W (· < W.heap.size) tx A) => Names_t tx A c W q (by omega) (by omega)
  have hNy := fun (A : Option Addr) (c : Nat) W (q : XQ W (· < W.heap.size) ty A) => Names_t ty A c W q (by omega) (by omega)
  have hNe := fun (A : Option Addr) (c : Nat) W (q : XQ W (· < W.heap.size) TE A) => Names_t TE A c W q (by omega) (by omega)
  have hDx := fun (A : Option Addr) (c : Nat) W (q : XQ W (· < W.heap.size) tx A) => Depth_t tx A c W q (by omega) (by omega)
  have hDy := fun (A : Option Addr) (c : Nat) W (q : XQ W (· < W.heap.size) ty A) => Depth_t ty A c W q (by omega) (by omega)
  have hDe := fun (A : Option Addr) (c : Nat) W (q : XQ W (· < W.heap.size) TE A) => Depth_t TE A c W q (by omega) (by omega)
  unfold RV at hDx hDy hDe
  have hNN := names_cat ⟨6, 0, 0, 0, ⟨#[]⟩⟩ tx ty rfl
  have hsx := names_sz tx hWx
  have hsy := names_sz ty hWy
  have hlx : (insAll [] tx.nms).length ≤ 2000 := by
    have h1 := insAll_len tx.nmp []
    have h2 := nmp_len tx
    rw [nms_nmp]
    simp at h1
    omega
  have hly : (insAll [] ty.nms).length ≤ 2000 := by
    have h1 := insAll_len ty.nmp []
    have h2 := nmp_len ty
    rw [nms_nmp]
    simp at h1
    omega
  rw [hTE] at hNN
  obtain ⟨Lx, hLx⟩ : ∃ L, insAll [] tx.nms = L := ⟨_, rfl⟩
  obtain ⟨Ly, hLy⟩ : ∃ L, insAll [] ty.nms = L := ⟨_, rfl⟩
  rw [hLx] at hNN hsx hlx hNx
  rw [hLy] at hNN hsy hly hNy
  rw [hNN] at hNe
  obtain ⟨NN, hNNe⟩ : ∃ L, Lx ++ Ly = L := ⟨_, rfl⟩
  have hsN : ∀ s ∈ NN, s.length ≤ 64 := by
    rw [← hNNe]
    intro s hs
    rcases List.mem_append.1 hs with e | e
    · exact hsx s e
    · exact hsy s e
  have hlN : NN.length ≤ 4000 := by rw [← hNNe, List.length_append]; omega
  rw [hNNe] at hNe
  have hsize := size_names NN
  have hsec := size_second NN
  have henv := env_at NN
  have hasc := insAll_asc NN [] List.Pairwise.nil
  have hmem := fun s => mem_insAll NN [] s
  have hlL := insAll_len NN []
  obtain ⟨L, hLe⟩ : ∃ L, insAll [] NN = L := ⟨_, rfl⟩
  rw [hLe] at hsize henv hasc hmem hlL hNe
  have hlL2 : L.length ≤ 4000 := by simp at hlL; omega
  obtain ⟨dx, hdx⟩ : ∃ d, tx.dep = d := ⟨_, rfl⟩
  obtain ⟨dy, hdy⟩ : ∃ d, ty.dep = d := ⟨_, rfl⟩
  rw [hdx] at hDx hdE
  rw [hdy] at hDy hdE
  rw [hdE] at hDe
  have hTh : TE.h = ⟨6, 0, 0, 0, ⟨#[]⟩⟩ := by rw [← hTE]; rfl
  have hTl : TE.args.length = 2 := by rw [← hTE]; rfl
  rw [hTh, hTl] at hNe hDe
  replace hNe : ∀ (A : Option Addr) (c : Nat) W, XQ W (· < W.heap.size) TE A → Calls Try.prog 9 #[.agg #[.int .i64 6, .int .i64 0, .int .i64 0, .int .i64 0, .string ⟨#[]⟩, .slice A 2 c]] W fun e w' => ∃ v, e = .returned v ∧ OSN W.heap.size v L W w' := hNe
  obtain ⟨X, hX⟩ : ∃ X : Int, (dx : Int) + 1 = X := ⟨_, rfl⟩
  obtain ⟨Y, hY⟩ : ∃ Y : Int, (dy : Int) + 1 = Y := ⟨_, rfl⟩
  obtain ⟨U, hU⟩ : ∃ U : Int, max X Y = U := ⟨_, rfl⟩
  obtain ⟨Z, hZ⟩ : ∃ Z : Int, 1 + U = Z := ⟨_, rfl⟩
  have hdZ : ((max dx dy + 1 : Nat) : Int) + 1 = Z := by omega
  have hwZ : IntKind.i64.wrap (1 + U) = Z := by rw [IntWalk.i64_in _ (by omega)]; exact hZ
  rw [hX] at hDx
  rw [hY] at hDy
  rw [hdZ] at hDe
  replace hDe : ∀ (A : Option Addr) (c : Nat) W, XQ W (· < W.heap.size) TE A → Calls Try.prog 11 #[.agg #[.int .i64 6, .int .i64 0, .int .i64 0, .int .i64 0, .string ⟨#[]⟩, .slice A 2 c]] W fun e w' => e = .returned (.int .i64 Z) ∧ Below W.heap.size W w' := hDe
  rw [hnx] at hNx hDx
  rw [hny] at hNy hDy
  -- the map
  have hm0 := World.ownsMap_made (H := Unit) ze Try.prog 9 (plainElem (H := Unit) Try.prog 3)
  have hbm := (Below.refl ze.heap.size ze).alloc (Nat.le_refl _) (.map #[] 0)
  obtain ⟨gm, hgm⟩ : ∃ g, ze.heap.size = g := ⟨_, rfl⟩
  have hJ : JS w gm gx gy (gr + 1) tx ty TE Ax nx cx Ay ny cy (some ⟨gr, 0, none⟩) (ze.alloc (.map #[] 0)) := by
    refine ⟨hMx3.ov hbm, hMy3.ov hbm, hEv'.ov hbm, ?_, ?_, ?_, below_call hbm hK3, hgm ▸ hMx3.lt, hgm ▸ hMy3.lt, by omega, hgm ▸ hK3.size⟩
    · rw [← hgm]; exact hQx3.over (fun b hb => hbm.block b hb) (fun _ h => h)
    · rw [← hgm]; exact hQy3.over (fun b hb => hbm.block b hb) (fun _ h => h)
    · rw [← hgm]; exact hQe.over (fun b hb => hbm.block b hb) (fun _ h => h)
  have hzm : (ze.alloc (.map #[] 0)).heap.size = gm + 1 := by simp [hgm]
  rw [hgm] at hm0
  have hmm := @run_makeMap Try.prog
  have hNNl : NN.length = Lx.length + Ly.length := by rw [← hNNe, List.length_append]
  replace hNNe := Lib.hid hNNe
  clear hEv' hRe hMx3 hMy3 hQx3 hQy3 hK3 hze hpc2 hQe hndx hndy hnE hNN hsx hsy hlx hly hTE hLx hLy hlL hLe hTh hTl hbm hWx hWy hdE hdx hdy hnx hny hgr hX hY hZ hdZ
  replace hNx := Lib.hid hNx
  replace hNy := Lib.hid hNy
  replace hNe := Lib.hid hNe
  replace hDx := Lib.hid hDx
  replace hDy := Lib.hid hDy
  replace hDe := Lib.hid hDe
  replace hsN := Lib.hid hsN
  replace hlN := Lib.hid hlN
  replace hsize := Lib.hid hsize
  replace hsec := Lib.hid hsec
  replace henv := Lib.hid henv
  replace hasc := Lib.hid hasc
  replace hmem := Lib.hid hmem
  replace hlL2 := Lib.hid hlL2
  replace hm0 := Lib.hid hm0
  replace hJ := Lib.hid hJ
  replace hzm := Lib.hid hzm
  replace hNNl := Lib.hid hNNl
  go_upto_region 7 with fail
  obtain ⟨zm, hzme⟩ : ∃ W, ze.alloc (.map #[] 0) = W := ⟨_, rfl⟩
  replace hm0 := hm0.out
  replace hJ := hJ.out
  replace hzm := hzm.out
  rw [hzme] at hm0 hJ hzm ⊢
  clear hzme hgm hmm
  have hm1 : MapIs zm gm 0 (DM (es12 [] [])) := hm0
  clear hm0
  obtain ⟨M, hM⟩ : ∃ M, NN.length = M := ⟨_, rfl⟩
  have hML : Lx.length + Ly.length = M := by rw [← hM, hNNl.out]
  have hMM : M ≤ 4000 := hM ▸ hlN.out
  replace hML := Lib.hid hML
  replace hM := Lib.hid hM
  replace hm1 := Lib.hid hm1
  replace hJ := Lib.hid hJ
  go_cut [37, 38, 39] from 14 (fun sv lv iv wz => ∃ A37 c37, sv = .slice A37 M c37 ∧ lv = .int .i64 (M : Int) ∧ iv = .int .i64 0 ∧ SG gm wz A37 NN ∧ JS w gm gx gy (gr + 1) tx ty TE Ax nx cx Ay ny cy (some ⟨gr, 0, none⟩) wz ∧ MapIs wz gm 0 (DM (es12 [] [])))
  case first =>
    obtain ⟨u0, hu0⟩ : ∃ W, zm.drew = W := ⟨_, rfl⟩
    have hbd : Below zm.heap.size zm zm.drew := (Below.refl _ _).drew
    have hJ0 := hJ.out.keep (hbd.mono (by omega))
    have hm0 := hm1.out.keep (Keep.of_below (F := fun _ => False) hbd) (fun h => h)
    have hg0 : gm + 1 = u0.heap.size := by rw [← hu0]; exact hzm.symm
    rw [hu0] at hJ0 hm0
    clear hbd
    replace hJ0 := Lib.hid hJ0
    replace hm0 := Lib.hid hm0
    refine region_anyT (n := 6) (S := fun _ => True) (by kernel_rfl) ?_
    rw [hu0]
    refine anyT_three (i := 0) (j := 2) (m := 6) (by kernel_rfl) ?_ ?_ ?_
    ·
      refine wpOp_step rfl (fun K hK => ?_)
      replace hK := Lib.hid hK
      obtain ⟨q0, q1, q2, q3, q4, q5⟩ := hJ0.out.x.all
      go_simp
      refine hK.out _ _ ⟨fun _ => trivial, ?_⟩
      clear hK K q0 q1 q2 q3 q4 q5
      try simp only [Act.put, List.getElem_toArray, List.getElem_cons_zero, List.getElem_cons_succ, List.setIfInBounds_toArray, List.set_cons_zero, List.set_cons_succ]
      refine anyT_three (i := 1) (j := 2) (m := 6) (by kernel_rfl) ?_ ?_ ?_
      ·
        refine wpOp_step rfl (fun K hK => ?_)
        replace hK := Lib.hid hK
        go_simp
        (with_reducible refine (hNx.out _ _ _ (hJ0.out.qx.up (by omega))).mono ?_)
        rintro e u1 ⟨v, rfl, hv⟩
        have hb := hv.2
        obtain ⟨A34, c34, rfl⟩ := own_shape hv.1
        have ho1 : u1.ownsRow (gm + 1) 9 1 (.slice A34 Lx.length c34) Lx.length (Lx.map encStr) := by rw [hg0]; exact hv.1
        have hJ1 := hJ0.out.keep (hb.mono (by omega))
        have hm1 := hm0.out.keep (Keep.of_below (F := fun _ => False) hb) (fun h => h)
        have hg1 : gm + 1 ≤ u1.heap.size := by have := hb.size; omega
        refine hK.out _ _ ⟨fun _ => trivial, ?_⟩
        clear hK K hb hv hJ0 hm0
        replace hJ1 := Lib.hid hJ1
        replace hm1 := Lib.hid hm1
        replace ho1 := Lib.hid ho1
        try simp only [Act.put, List.getElem_toArray, List.getElem_cons_zero, List.getElem_cons_succ, List.setIfInBounds_toArray, List.set_cons_zero, List.set_cons_succ]
        refine anyT_pair (i := 2) (j := 6) (by kernel_rfl) ?_ ?_
        ·
          refine wpOp_step rfl (fun K hK => ?_)
          replace hK := Lib.hid hK
          obtain ⟨q0, q1, q2, q3, q4, q5⟩ := hJ1.out.y.all
          go_simp
          refine hK.out _ _ ⟨fun _ => trivial, ?_⟩
          clear hK K q0 q1 q2 q3 q4 q5
          try simp only [Act.put, List.getElem_toArray, List.getElem_cons_zero, List.getElem_cons_succ, List.setIfInBounds_toArray, List.set_cons_zero, List.set_cons_succ]
          refine anyT_pair (i := 3) (j := 6) (by kernel_rfl) ?_ ?_
          ·
            refine wpOp_step rfl (fun K hK => ?_)
            replace hK := Lib.hid hK
            go_simp
            (with_reducible refine (hNy.out _ _ _ (hJ1.out.qy.up (by omega))).mono ?_)
            rintro e u2 ⟨v, rfl, hv⟩
            have hb := hv.2
            obtain ⟨A36, c36, rfl⟩ := own_shape hv.1
            obtain ⟨hsn2, _, hnl2⟩ := own_SN hv.1
            have ho2 := own_keepT ho1.out fun b hb' => hb.block b (own_ltT ho1.out b hb').2
            have hJ2 := hJ1.out.keep (hb.mono (by omega))
            have hm2 := hm1.out.keep (Keep.of_below (F := fun _ => False) hb) (fun h => h)
            have hg2 : gm + 1 ≤ u2.heap.size := by have := hb.size; omega
            refine hK.out _ _ ⟨fun _ => trivial, ?_⟩
            clear hK K hb hv hJ1 hm1 ho1
            replace hJ2 := Lib.hid hJ2
            replace hm2 := Lib.hid hm2
            replace ho2 := Lib.hid ho2
            replace hsn2 := Lib.hid hsn2
            replace hnl2 := Lib.hid hnl2
            try simp only [Act.put, List.getElem_toArray, List.getElem_cons_zero, List.getElem_cons_succ, List.setIfInBounds_toArray, List.set_cons_zero, List.set_cons_succ]
            refine anyT_pair (i := 4) (j := 6) (by kernel_rfl) ?_ ?_
            ·
              refine wpOp_step rfl (fun K hK => ?_)
              replace hK := Lib.hid hK
              refine step_append_SN rfl (.tmp 34) (.tmp 36) rfl (gm + 1) (.slice A34 Lx.length c34) Lx.length (Lx.map encStr) (by simp [Act.eval]) ho2.out A36 Ly.length c36 Ly rfl (by simp [Act.eval]) hnl2.out hsn2.out (by have := hML.out; omega) hg2 ?_
              intro v7 u3 ho7 hg7 hat7
              obtain ⟨A37, c37, rfl⟩ := own_shape ho7
              have hF := grown_facts (g := gm + 1) hg7 (fun g e => (own_ltT ho2.out g e).1) hg2
              have hJ3 := hJ2.out.keep (hF.mono (by omega))
              have hm3 := MI_blk hm2.out (hF.block gm (by omega))
              have hSG : SG gm u3 A37 NN := by
                refine own_SG (n := Lx.length + Ly.length) (c := c37) (t := 9) (B := gm + 1) ?_ (by omega)
                rw [hM.out, ← hML.out, ← hNNe.out, List.map_append]
                exact ho7
              rw [hML.out]
              refine hK.out _ _ ⟨fun _ => trivial, ?_⟩
              clear hK K hF hg7 hat7 ho7 hJ2 hm2 ho2 hsn2 hnl2
              replace hJ3 := Lib.hid hJ3
              replace hm3 := Lib.hid hm3
              replace hSG := Lib.hid hSG
              try simp only [Act.put, List.getElem_toArray, List.getElem_cons_zero, List.getElem_cons_succ, List.setIfInBounds_toArray, List.set_cons_zero, List.set_cons_succ]
              refine anyT_pair (i := 5) (j := 6) (by kernel_rfl) ?_ ?_
              ·
                refine wpOp_step rfl (fun K hK => ?_)
                replace hK := Lib.hid hK
                go_simp
                refine hK.out _ _ ⟨fun _ => trivial, ?_⟩
                clear hK K
                try simp only [Act.put, List.getElem_toArray, List.getElem_cons_zero, List.getElem_cons_succ, List.setIfInBounds_toArray, List.set_cons_zero, List.set_cons_succ]
                refine anyT_one (i := 6) (by kernel_rfl) ?_
                refine wpOp_step rfl (fun K hK => ?_)
                replace hK := Lib.hid hK
                go_simp
                refine hK.out _ _ ⟨fun _ => trivial, ?_⟩
                clear hK K
                try simp only [Act.put, List.getElem_toArray, List.getElem_cons_zero, List.getElem_cons_succ, List.setIfInBounds_toArray, List.set_cons_zero, List.set_cons_succ]
                refine anyT_done (by kernel_rfl) ?_ _
                go_wp2_with fail
                go_meet
                case rel => exact ⟨A37, c37, rfl, rfl, rfl, hSG.out, hJ3.out, hm3.out⟩
              ·
                refine wpOp_step rfl (fun K hK => ?_)
                replace hK := Lib.hid hK
                go_simp
                refine hK.out _ _ ⟨fun _ => trivial, ?_⟩
                clear hK K
                try simp only [Act.put, List.getElem_toArray, List.getElem_cons_zero, List.getElem_cons_succ, List.setIfInBounds_toArray, List.set_cons_zero, List.set_cons_succ]
                refine anyT_one (i := 5) (by kernel_rfl) ?_
                refine wpOp_step rfl (fun K hK => ?_)
                replace hK := Lib.hid hK
                go_simp
                refine hK.out _ _ ⟨fun _ => trivial, ?_⟩
                clear hK K
                try simp only [Act.put, List.getElem_toArray, List.getElem_cons_zero, List.getElem_cons_succ, List.setIfInBounds_toArray, List.set_cons_zero, List.set_cons_succ]
                refine anyT_done (by kernel_rfl) ?_ _
                go_wp2_with fail
                go_meet
                case rel => exact ⟨A37, c37, rfl, rfl, rfl, hSG.out, hJ3.out, hm3.out⟩
            ·
              refine wpOp_step rfl (fun K hK => ?_)
              replace hK := Lib.hid hK
              go_simp
              refine hK.out _ _ ⟨fun _ => trivial, ?_⟩
              clear hK K
              try simp only [Act.put, List.getElem_toArray, List.getElem_cons_zero, List.getElem_cons_succ, List.setIfInBounds_toArray, List.set_cons_zero, List.set_cons_succ]
              refine anyT_one (i := 4) (by kernel_rfl) ?_
              refine wpOp_step rfl (fun K hK => ?_)
              replace hK := Lib.hid hK
              refine step_append_SN rfl (.tmp 34) (.tmp 36) rfl (gm + 1) (.slice A34 Lx.length c34) Lx.length (Lx.map encStr) (by simp [Act.eval]) ho2.out A36 Ly.length c36 Ly rfl (by simp [Act.eval]) hnl2.out hsn2.out (by have := hML.out; omega) hg2 ?_
              intro v7 u3 ho7 hg7 hat7
              obtain ⟨A37, c37, rfl⟩ := own_shape ho7
              have hF := grown_facts (g := gm + 1) hg7 (fun g e => (own_ltT ho2.out g e).1) hg2
              have hJ3 := hJ2.out.keep (hF.mono (by omega))
              have hm3 := MI_blk hm2.out (hF.block gm (by omega))
              have hSG : SG gm u3 A37 NN := by
                refine own_SG (n := Lx.length + Ly.length) (c := c37) (t := 9) (B := gm + 1) ?_ (by omega)
                rw [hM.out, ← hML.out, ← hNNe.out, List.map_append]
                exact ho7
              rw [hML.out]
              refine hK.out _ _ ⟨fun _ => trivial, ?_⟩
              clear hK K hF hg7 hat7 ho7 hJ2 hm2 ho2 hsn2 hnl2
              replace hJ3 := Lib.hid hJ3
              replace hm3 := Lib.hid hm3
              replace hSG := Lib.hid hSG
              try simp only [Act.put, List.getElem_toArray, List.getElem_cons_zero, List.getElem_cons_succ, List.setIfInBounds_toArray, List.set_cons_zero, List.set_cons_succ]
              refine anyT_one (i := 5) (by kernel_rfl) ?_
              refine wpOp_step rfl (fun K hK => ?_)
              replace hK := Lib.hid hK
              go_simp
              refine hK.out _ _ ⟨fun _ => trivial, ?_⟩
              clear hK K
              try simp only [Act.put, List.getElem_toArray, List.getElem_cons_zero, List.getElem_cons_succ, List.setIfInBounds_toArray, List.set_cons_zero, List.set_cons_succ]
              refine anyT_done (by kernel_rfl) ?_ _
              go_wp2_with fail
              go_meet
              case rel => exact ⟨A37, c37, rfl, rfl, rfl, hSG.out, hJ3.out, hm3.out⟩
          ·
            refine wpOp_step rfl (fun K hK => ?_)
            replace hK := Lib.hid hK
            go_simp
            refine hK.out _ _ ⟨fun _ => trivial, ?_⟩
            clear hK K
            try simp only [Act.put, List.getElem_toArray, List.getElem_cons_zero, List.getElem_cons_succ, List.setIfInBounds_toArray, List.set_cons_zero, List.set_cons_succ]
            refine anyT_one (i := 3) (by kernel_rfl) ?_
            refine wpOp_step rfl (fun K hK => ?_)
            replace hK := Lib.hid hK
            go_simp
            (with_reducible refine (hNy.out _ _ _ (hJ1.out.qy.up (by omega))).mono ?_)
            rintro e u2 ⟨v, rfl, hv⟩
            have hb := hv.2
            obtain ⟨A36, c36, rfl⟩ := own_shape hv.1
            obtain ⟨hsn2, _, hnl2⟩ := own_SN hv.1
            have ho2 := own_keepT ho1.out fun b hb' => hb.block b (own_ltT ho1.out b hb').2
            have hJ2 := hJ1.out.keep (hb.mono (by omega))
            have hm2 := hm1.out.keep (Keep.of_below (F := fun _ => False) hb) (fun h => h)
            have hg2 : gm + 1 ≤ u2.heap.size := by have := hb.size; omega
            refine hK.out _ _ ⟨fun _ => trivial, ?_⟩
            clear hK K hb hv hJ1 hm1 ho1
            replace hJ2 := Lib.hid hJ2
            replace hm2 := Lib.hid hm2
            replace ho2 := Lib.hid ho2
            replace hsn2 := Lib.hid hsn2
            replace hnl2 := Lib.hid hnl2
            try simp only [Act.put, List.getElem_toArray, List.getElem_cons_zero, List.getElem_cons_succ, List.setIfInBounds_toArray, List.set_cons_zero, List.set_cons_succ]
            refine anyT_one (i := 4) (by kernel_rfl) ?_
            refine wpOp_step rfl (fun K hK => ?_)
            replace hK := Lib.hid hK
            refine step_append_SN rfl (.tmp 34) (.tmp 36) rfl (gm + 1) (.slice A34 Lx.length c34) Lx.length (Lx.map encStr) (by simp [Act.eval]) ho2.out A36 Ly.length c36 Ly rfl (by simp [Act.eval]) hnl2.out hsn2.out (by have := hML.out; omega) hg2 ?_
            intro v7 u3 ho7 hg7 hat7
            obtain ⟨A37, c37, rfl⟩ := own_shape ho7
            have hF := grown_facts (g := gm + 1) hg7 (fun g e => (own_ltT ho2.out g e).1) hg2
            have hJ3 := hJ2.out.keep (hF.mono (by omega))
            have hm3 := MI_blk hm2.out (hF.block gm (by omega))
            have hSG : SG gm u3 A37 NN := by
              refine own_SG (n := Lx.length + Ly.length) (c := c37) (t := 9) (B := gm + 1) ?_ (by omega)
              rw [hM.out, ← hML.out, ← hNNe.out, List.map_append]
              exact ho7
            rw [hML.out]
            refine hK.out _ _ ⟨fun _ => trivial, ?_⟩
            clear hK K hF hg7 hat7 ho7 hJ2 hm2 ho2 hsn2 hnl2
            replace hJ3 := Lib.hid hJ3
            replace hm3 := Lib.hid hm3
            replace hSG := Lib.hid hSG
            try simp only [Act.put, List.getElem_toArray, List.getElem_cons_zero, List.getElem_cons_succ, List.setIfInBounds_toArray, List.set_cons_zero, List.set_cons_succ]
            refine anyT_one (i := 5) (by kernel_rfl) ?_
            refine wpOp_step rfl (fun K hK => ?_)
            replace hK := Lib.hid hK
            go_simp
            refine hK.out _ _ ⟨fun _ => trivial, ?_⟩
            clear hK K
            try simp only [Act.put, List.getElem_toArray, List.getElem_cons_zero, List.getElem_cons_succ, List.setIfInBounds_toArray, List.set_cons_zero, List.set_cons_succ]
            refine anyT_done (by kernel_rfl) ?_ _
            go_wp2_with fail
            go_meet
            case rel => exact ⟨A37, c37, rfl, rfl, rfl, hSG.out, hJ3.out, hm3.out⟩
        ·
          refine wpOp_step rfl (fun K hK => ?_)
          replace hK := Lib.hid hK
          go_simp
          refine hK.out _ _ ⟨fun _ => trivial, ?_⟩
          clear hK K
          try simp only [Act.put, List.getElem_toArray, List.getElem_cons_zero, List.getElem_cons_succ, List.setIfInBounds_toArray, List.set_cons_zero, List.set_cons_succ]
          refine anyT_one (i := 2) (by kernel_rfl) ?_
          refine wpOp_step rfl (fun K hK => ?_)
          replace hK := Lib.hid hK
          obtain ⟨q0, q1, q2, q3, q4, q5⟩ := hJ1.out.y.all
          go_simp
          refine hK.out _ _ ⟨fun _ => trivial, ?_⟩
          clear hK K q0 q1 q2 q3 q4 q5
          try simp only [Act.put, List.getElem_toArray, List.getElem_cons_zero, List.getElem_cons_succ, List.setIfInBounds_toArray, List.set_cons_zero, List.set_cons_succ]
          refine anyT_one (i := 3) (by kernel_rfl) ?_
          refine wpOp_step rfl (fun K hK => ?_)
          replace hK := Lib.hid hK
          go_simp
          (with_reducible refine (hNy.out _ _ _ (hJ1.out.qy.up (by omega))).mono ?_)
          rintro e u2 ⟨v, rfl, hv⟩
          have hb := hv.2
          obtain ⟨A36, c36, rfl⟩ := own_shape hv.1
          obtain ⟨hsn2, _, hnl2⟩ := own_SN hv.1
          have ho2 := own_keepT ho1.out fun b hb' => hb.block b (own_ltT ho1.out b hb').2
          have hJ2 := hJ1.out.keep (hb.mono (by omega))
          have hm2 := hm1.out.keep (Keep.of_below (F := fun _ => False) hb) (fun h => h)
          have hg2 : gm + 1 ≤ u2.heap.size := by have := hb.size; omega
          refine hK.out _ _ ⟨fun _ => trivial, ?_⟩
          clear hK K hb hv hJ1 hm1 ho1
          replace hJ2 := Lib.hid hJ2
          replace hm2 := Lib.hid hm2
          replace ho2 := Lib.hid ho2
          replace hsn2 := Lib.hid hsn2
          replace hnl2 := Lib.hid hnl2
          try simp only [Act.put, List.getElem_toArray, List.getElem_cons_zero, List.getElem_cons_succ, List.setIfInBounds_toArray, List.set_cons_zero, List.set_cons_succ]
          refine anyT_one (i := 4) (by kernel_rfl) ?_
          refine wpOp_step rfl (fun K hK => ?_)
          replace hK := Lib.hid hK
          refine step_append_SN rfl (.tmp 34) (.tmp 36) rfl (gm + 1) (.slice A34 Lx.length c34) Lx.length (Lx.map encStr) (by simp [Act.eval]) ho2.out A36 Ly.length c36 Ly rfl (by simp [Act.eval]) hnl2.out hsn2.out (by have := hML.out; omega) hg2 ?_
          intro v7 u3 ho7 hg7 hat7
          obtain ⟨A37, c37, rfl⟩ := own_shape ho7
          have hF := grown_facts (g := gm + 1) hg7 (fun g e => (own_ltT ho2.out g e).1) hg2
          have hJ3 := hJ2.out.keep (hF.mono (by omega))
          have hm3 := MI_blk hm2.out (hF.block gm (by omega))
          have hSG : SG gm u3 A37 NN := by
            refine own_SG (n := Lx.length + Ly.length) (c := c37) (t := 9) (B := gm + 1) ?_ (by omega)
            rw [hM.out, ← hML.out, ← hNNe.out, List.map_append]
            exact ho7
          rw [hML.out]
          refine hK.out _ _ ⟨fun _ => trivial, ?_⟩
          clear hK K hF hg7 hat7 ho7 hJ2 hm2 ho2 hsn2 hnl2
          replace hJ3 := Lib.hid hJ3
          replace hm3 := Lib.hid hm3
          replace hSG := Lib.hid hSG
          try simp only [Act.put, List.getElem_toArray, List.getElem_cons_zero, List.getElem_cons_succ, List.setIfInBounds_toArray, List.set_cons_zero, List.set_cons_succ]
          refine anyT_one (i := 5) (by kernel_rfl) ?_
          refine wpOp_step rfl (fun K hK => ?_)
          replace hK := Lib.hid hK
          go_simp
          refine hK.out _ _ ⟨fun _ => trivial, ?_⟩
          clear hK K
          try simp only [Act.put, List.getElem_toArray, List.getElem_cons_zero, List.getElem_cons_succ, List.setIfInBounds_toArray, List.set_cons_zero, List.set_cons_succ]
          refine anyT_done (by kernel_rfl) ?_ _
          go_wp2_with fail
          go_meet
          case rel => exact ⟨A37, c37, rfl, rfl, rfl, hSG.out, hJ3.out, hm3.out⟩
      ·
        refine wpOp_step rfl (fun K hK => ?_)
        replace hK := Lib.hid hK
        obtain ⟨q0, q1, q2, q3, q4, q5⟩ := hJ0.out.y.all
        go_simp
        refine hK.out _ _ ⟨fun _ => trivial, ?_⟩
        clear hK K q0 q1 q2 q3 q4 q5
        try simp only [Act.put, List.getElem_toArray, List.getElem_cons_zero, List.getElem_cons_succ, List.setIfInBounds_toArray, List.set_cons_zero, List.set_cons_succ]
        refine anyT_pair (i := 1) (j := 6) (by kernel_rfl) ?_ ?_
        ·
          refine wpOp_step rfl (fun K hK => ?_)
          replace hK := Lib.hid hK
          go_simp
          (with_reducible refine (hNx.out _ _ _ (hJ0.out.qx.up (by omega))).mono ?_)
          rintro e u1 ⟨v, rfl, hv⟩
          have hb := hv.2
          obtain ⟨A34, c34, rfl⟩ := own_shape hv.1
          have ho1 : u1.ownsRow (gm + 1) 9 1 (.slice A34 Lx.length c34) Lx.length (Lx.map encStr) := by rw [hg0]; exact hv.1
          have hJ1 := hJ0.out.keep (hb.mono (by omega))
          have hm1 := hm0.out.keep (Keep.of_below (F := fun _ => False) hb) (fun h => h)
          have hg1 : gm + 1 ≤ u1.heap.size := by have := hb.size; omega
          refine hK.out _ _ ⟨fun _ => trivial, ?_⟩
          clear hK K hb hv hJ0 hm0
          replace hJ1 := Lib.hid hJ1
          replace hm1 := Lib.hid hm1
          replace ho1 := Lib.hid ho1
          try simp only [Act.put, List.getElem_toArray, List.getElem_cons_zero, List.getElem_cons_succ, List.setIfInBounds_toArray, List.set_cons_zero, List.set_cons_succ]
          refine anyT_pair (i := 3) (j := 6) (by kernel_rfl) ?_ ?_
          ·
            refine wpOp_step rfl (fun K hK => ?_)
            replace hK := Lib.hid hK
            go_simp
            (with_reducible refine (hNy.out _ _ _ (hJ1.out.qy.up (by omega))).mono ?_)
            rintro e u2 ⟨v, rfl, hv⟩
            have hb := hv.2
            obtain ⟨A36, c36, rfl⟩ := own_shape hv.1
            obtain ⟨hsn2, _, hnl2⟩ := own_SN hv.1
            have ho2 := own_keepT ho1.out fun b hb' => hb.block b (own_ltT ho1.out b hb').2
            have hJ2 := hJ1.out.keep (hb.mono (by omega))
            have hm2 := hm1.out.keep (Keep.of_below (F := fun _ => False) hb) (fun h => h)
            have hg2 : gm + 1 ≤ u2.heap.size := by have := hb.size; omega
            refine hK.out _ _ ⟨fun _ => trivial, ?_⟩
            clear hK K hb hv hJ1 hm1 ho1
            replace hJ2 := Lib.hid hJ2
            replace hm2 := Lib.hid hm2
            replace ho2 := Lib.hid ho2
            replace hsn2 := Lib.hid hsn2
            replace hnl2 := Lib.hid hnl2
            try simp only [Act.put, List.getElem_toArray, List.getElem_cons_zero, List.getElem_cons_succ, List.setIfInBounds_toArray, List.set_cons_zero, List.set_cons_succ]
            refine anyT_pair (i := 4) (j := 6) (by kernel_rfl) ?_ ?_
            ·
              refine wpOp_step rfl (fun K hK => ?_)
              replace hK := Lib.hid hK
              refine step_append_SN rfl (.tmp 34) (.tmp 36) rfl (gm + 1) (.slice A34 Lx.length c34) Lx.length (Lx.map encStr) (by simp [Act.eval]) ho2.out A36 Ly.length c36 Ly rfl (by simp [Act.eval]) hnl2.out hsn2.out (by have := hML.out; omega) hg2 ?_
              intro v7 u3 ho7 hg7 hat7
              obtain ⟨A37, c37, rfl⟩ := own_shape ho7
              have hF := grown_facts (g := gm + 1) hg7 (fun g e => (own_ltT ho2.out g e).1) hg2
              have hJ3 := hJ2.out.keep (hF.mono (by omega))
              have hm3 := MI_blk hm2.out (hF.block gm (by omega))
              have hSG : SG gm u3 A37 NN := by
                refine own_SG (n := Lx.length + Ly.length) (c := c37) (t := 9) (B := gm + 1) ?_ (by omega)
                rw [hM.out, ← hML.out, ← hNNe.out, List.map_append]
                exact ho7
              rw [hML.out]
              refine hK.out _ _ ⟨fun _ => trivial, ?_⟩
              clear hK K hF hg7 hat7 ho7 hJ2 hm2 ho2 hsn2 hnl2
              replace hJ3 := Lib.hid hJ3
              replace hm3 := Lib.hid hm3
              replace hSG := Lib.hid hSG
              try simp only [Act.put, List.getElem_toArray, List.getElem_cons_zero, List.getElem_cons_succ, List.setIfInBounds_toArray, List.set_cons_zero, List.set_cons_succ]
              refine anyT_pair (i := 5) (j := 6) (by kernel_rfl) ?_ ?_
              ·
                refine wpOp_step rfl (fun K hK => ?_)
                replace hK := Lib.hid hK
                go_simp
                refine hK.out _ _ ⟨fun _ => trivial, ?_⟩
                clear hK K
                try simp only [Act.put, List.getElem_toArray, List.getElem_cons_zero, List.getElem_cons_succ, List.setIfInBounds_toArray, List.set_cons_zero, List.set_cons_succ]
                refine anyT_one (i := 6) (by kernel_rfl) ?_
                refine wpOp_step rfl (fun K hK => ?_)
                replace hK := Lib.hid hK
                go_simp
                refine hK.out _ _ ⟨fun _ => trivial, ?_⟩
                clear hK K
                try simp only [Act.put, List.getElem_toArray, List.getElem_cons_zero, List.getElem_cons_succ, List.setIfInBounds_toArray, List.set_cons_zero, List.set_cons_succ]
                refine anyT_done (by kernel_rfl) ?_ _
                go_wp2_with fail
                go_meet
                case rel => exact ⟨A37, c37, rfl, rfl, rfl, hSG.out, hJ3.out, hm3.out⟩
              ·
                refine wpOp_step rfl (fun K hK => ?_)
                replace hK := Lib.hid hK
                go_simp
                refine hK.out _ _ ⟨fun _ => trivial, ?_⟩
                clear hK K
                try simp only [Act.put, List.getElem_toArray, List.getElem_cons_zero, List.getElem_cons_succ, List.setIfInBounds_toArray, List.set_cons_zero, List.set_cons_succ]
                refine anyT_one (i := 5) (by kernel_rfl) ?_
                refine wpOp_step rfl (fun K hK => ?_)
                replace hK := Lib.hid hK
                go_simp
                refine hK.out _ _ ⟨fun _ => trivial, ?_⟩
                clear hK K
                try simp only [Act.put, List.getElem_toArray, List.getElem_cons_zero, List.getElem_cons_succ, List.setIfInBounds_toArray, List.set_cons_zero, List.set_cons_succ]
                refine anyT_done (by kernel_rfl) ?_ _
                go_wp2_with fail
                go_meet
                case rel => exact ⟨A37, c37, rfl, rfl, rfl, hSG.out, hJ3.out, hm3.out⟩
            ·
              refine wpOp_step rfl (fun K hK => ?_)
              replace hK := Lib.hid hK
              go_simp
              refine hK.out _ _ ⟨fun _ => trivial, ?_⟩
              clear hK K
              try simp only [Act.put, List.getElem_toArray, List.getElem_cons_zero, List.getElem_cons_succ, List.setIfInBounds_toArray, List.set_cons_zero, List.set_cons_succ]
              refine anyT_one (i := 4) (by kernel_rfl) ?_
              refine wpOp_step rfl (fun K hK => ?_)
              replace hK := Lib.hid hK
              refine step_append_SN rfl (.tmp 34) (.tmp 36) rfl (gm + 1) (.slice A34 Lx.length c34) Lx.length (Lx.map encStr) (by simp [Act.eval]) ho2.out A36 Ly.length c36 Ly rfl (by simp [Act.eval]) hnl2.out hsn2.out (by have := hML.out; omega) hg2 ?_
              intro v7 u3 ho7 hg7 hat7
              obtain ⟨A37, c37, rfl⟩ := own_shape ho7
              have hF := grown_facts (g := gm + 1) hg7 (fun g e => (own_ltT ho2.out g e).1) hg2
              have hJ3 := hJ2.out.keep (hF.mono (by omega))
              have hm3 := MI_blk hm2.out (hF.block gm (by omega))
              have hSG : SG gm u3 A37 NN := by
                refine own_SG (n := Lx.length + Ly.length) (c := c37) (t := 9) (B := gm + 1) ?_ (by omega)
                rw [hM.out, ← hML.out, ← hNNe.out, List.map_append]
                exact ho7
              rw [hML.out]
              refine hK.out _ _ ⟨fun _ => trivial, ?_⟩
              clear hK K hF hg7 hat7 ho7 hJ2 hm2 ho2 hsn2 hnl2
              replace hJ3 := Lib.hid hJ3
              replace hm3 := Lib.hid hm3
              replace hSG := Lib.hid hSG
              try simp only [Act.put, List.getElem_toArray, List.getElem_cons_zero, List.getElem_cons_succ, List.setIfInBounds_toArray, List.set_cons_zero, List.set_cons_succ]
              refine anyT_one (i := 5) (by kernel_rfl) ?_
              refine wpOp_step rfl (fun K hK => ?_)
              replace hK := Lib.hid hK
              go_simp
              refine hK.out _ _ ⟨fun _ => trivial, ?_⟩
              clear hK K
              try simp only [Act.put, List.getElem_toArray, List.getElem_cons_zero, List.getElem_cons_succ, List.setIfInBounds_toArray, List.set_cons_zero, List.set_cons_succ]
              refine anyT_done (by kernel_rfl) ?_ _
              go_wp2_with fail
              go_meet
              case rel => exact ⟨A37, c37, rfl, rfl, rfl, hSG.out, hJ3.out, hm3.out⟩
          ·
            refine wpOp_step rfl (fun K hK => ?_)
            replace hK := Lib.hid hK
            go_simp
            refine hK.out _ _ ⟨fun _ => trivial, ?_⟩
            clear hK K
            try simp only [Act.put, List.getElem_toArray, List.getElem_cons_zero, List.getElem_cons_succ, List.setIfInBounds_toArray, List.set_cons_zero, List.set_cons_succ]
            refine anyT_one (i := 3) (by kernel_rfl) ?_
            refine wpOp_step rfl (fun K hK => ?_)
            replace hK := Lib.hid hK
            go_simp
            (with_reducible refine (hNy.out _ _ _ (hJ1.out.qy.up (by omega))).mono ?_)
            rintro e u2 ⟨v, rfl, hv⟩
            have hb := hv.2
            obtain ⟨A36, c36, rfl⟩ := own_shape hv.1
            obtain ⟨hsn2, _, hnl2⟩ := own_SN hv.1
            have ho2 := own_keepT ho1.out fun b hb' => hb.block b (own_ltT ho1.out b hb').2
            have hJ2 := hJ1.out.keep (hb.mono (by omega))
            have hm2 := hm1.out.keep (Keep.of_below (F := fun _ => False) hb) (fun h => h)
            have hg2 : gm + 1 ≤ u2.heap.size := by have := hb.size; omega
            refine hK.out _ _ ⟨fun _ => trivial, ?_⟩
            clear hK K hb hv hJ1 hm1 ho1
            replace hJ2 := Lib.hid hJ2
            replace hm2 := Lib.hid hm2
            replace ho2 := Lib.hid ho2
            replace hsn2 := Lib.hid hsn2
            replace hnl2 := Lib.hid hnl2
            try simp only [Act.put, List.getElem_toArray, List.getElem_cons_zero, List.getElem_cons_succ, List.setIfInBounds_toArray, List.set_cons_zero, List.set_cons_succ]
            refine anyT_one (i := 4) (by kernel_rfl) ?_
            refine wpOp_step rfl (fun K hK => ?_)
            replace hK := Lib.hid hK
            refine step_append_SN rfl (.tmp 34) (.tmp 36) rfl (gm + 1) (.slice A34 Lx.length c34) Lx.length (Lx.map encStr) (by simp [Act.eval]) ho2.out A36 Ly.length c36 Ly rfl (by simp [Act.eval]) hnl2.out hsn2.out (by have := hML.out; omega) hg2 ?_
            intro v7 u3 ho7 hg7 hat7
            obtain ⟨A37, c37, rfl⟩ := own_shape ho7
            have hF := grown_facts (g := gm + 1) hg7 (fun g e => (own_ltT ho2.out g e).1) hg2
            have hJ3 := hJ2.out.keep (hF.mono (by omega))
            have hm3 := MI_blk hm2.out (hF.block gm (by omega))
            have hSG : SG gm u3 A37 NN := by
              refine own_SG (n := Lx.length + Ly.length) (c := c37) (t := 9) (B := gm + 1) ?_ (by omega)
              rw [hM.out, ← hML.out, ← hNNe.out, List.map_append]
              exact ho7
            rw [hML.out]
            refine hK.out _ _ ⟨fun _ => trivial, ?_⟩
            clear hK K hF hg7 hat7 ho7 hJ2 hm2 ho2 hsn2 hnl2
            replace hJ3 := Lib.hid hJ3
            replace hm3 := Lib.hid hm3
            replace hSG := Lib.hid hSG
            try simp only [Act.put, List.getElem_toArray, List.getElem_cons_zero, List.getElem_cons_succ, List.setIfInBounds_toArray, List.set_cons_zero, List.set_cons_succ]
            refine anyT_one (i := 5) (by kernel_rfl) ?_
            refine wpOp_step rfl (fun K hK => ?_)
            replace hK := Lib.hid hK
            go_simp
            refine hK.out _ _ ⟨fun _ => trivial, ?_⟩
            clear hK K
            try simp only [Act.put, List.getElem_toArray, List.getElem_cons_zero, List.getElem_cons_succ, List.setIfInBounds_toArray, List.set_cons_zero, List.set_cons_succ]
            refine anyT_done (by kernel_rfl) ?_ _
            go_wp2_with fail
            go_meet
            case rel => exact ⟨A37, c37, rfl, rfl, rfl, hSG.out, hJ3.out, hm3.out⟩
        ·
          refine wpOp_step rfl (fun K hK => ?_)
          replace hK := Lib.hid hK
          go_simp
          refine hK.out _ _ ⟨fun _ => trivial, ?_⟩
          clear hK K
          try simp only [Act.put, List.getElem_toArray, List.getElem_cons_zero, List.getElem_cons_succ, List.setIfInBounds_toArray, List.set_cons_zero, List.set_cons_succ]
          refine anyT_one (i := 1) (by kernel_rfl) ?_
          refine wpOp_step rfl (fun K hK => ?_)
          replace hK := Lib.hid hK
          go_simp
          (with_reducible refine (hNx.out _ _ _ (hJ0.out.qx.up (by omega))).mono ?_)
          rintro e u1 ⟨v, rfl, hv⟩
          have hb := hv.2
          obtain ⟨A34, c34, rfl⟩ := own_shape hv.1
          have ho1 : u1.ownsRow (gm + 1) 9 1 (.slice A34 Lx.length c34) Lx.length (Lx.map encStr) := by rw [hg0]; exact hv.1
          have hJ1 := hJ0.out.keep (hb.mono (by omega))
          have hm1 := hm0.out.keep (Keep.of_below (F := fun _ => False) hb) (fun h => h)
          have hg1 : gm + 1 ≤ u1.heap.size := by have := hb.size; omega
          refine hK.out _ _ ⟨fun _ => trivial, ?_⟩
          clear hK K hb hv hJ0 hm0
          replace hJ1 := Lib.hid hJ1
          replace hm1 := Lib.hid hm1
          replace ho1 := Lib.hid ho1
          try simp only [Act.put, List.getElem_toArray, List.getElem_cons_zero, List.getElem_cons_succ, List.setIfInBounds_toArray, List.set_cons_zero, List.set_cons_succ]
          refine anyT_one (i := 3) (by kernel_rfl) ?_
          refine wpOp_step rfl (fun K hK => ?_)
          replace hK := Lib.hid hK
          go_simp
          (with_reducible refine (hNy.out _ _ _ (hJ1.out.qy.up (by omega))).mono ?_)
          rintro e u2 ⟨v, rfl, hv⟩
          have hb := hv.2
          obtain ⟨A36, c36, rfl⟩ := own_shape hv.1
          obtain ⟨hsn2, _, hnl2⟩ := own_SN hv.1
          have ho2 := own_keepT ho1.out fun b hb' => hb.block b (own_ltT ho1.out b hb').2
          have hJ2 := hJ1.out.keep (hb.mono (by omega))
          have hm2 := hm1.out.keep (Keep.of_below (F := fun _ => False) hb) (fun h => h)
          have hg2 : gm + 1 ≤ u2.heap.size := by have := hb.size; omega
          refine hK.out _ _ ⟨fun _ => trivial, ?_⟩
          clear hK K hb hv hJ1 hm1 ho1
          replace hJ2 := Lib.hid hJ2
          replace hm2 := Lib.hid hm2
          replace ho2 := Lib.hid ho2
          replace hsn2 := Lib.hid hsn2
          replace hnl2 := Lib.hid hnl2
          try simp only [Act.put, List.getElem_toArray, List.getElem_cons_zero, List.getElem_cons_succ, List.setIfInBounds_toArray, List.set_cons_zero, List.set_cons_succ]
          refine anyT_one (i := 4) (by kernel_rfl) ?_
          refine wpOp_step rfl (fun K hK => ?_)
          replace hK := Lib.hid hK
          refine step_append_SN rfl (.tmp 34) (.tmp 36) rfl (gm + 1) (.slice A34 Lx.length c34) Lx.length (Lx.map encStr) (by simp [Act.eval]) ho2.out A36 Ly.length c36 Ly rfl (by simp [Act.eval]) hnl2.out hsn2.out (by have := hML.out; omega) hg2 ?_
          intro v7 u3 ho7 hg7 hat7
          obtain ⟨A37, c37, rfl⟩ := own_shape ho7
          have hF := grown_facts (g := gm + 1) hg7 (fun g e => (own_ltT ho2.out g e).1) hg2
          have hJ3 := hJ2.out.keep (hF.mono (by omega))
          have hm3 := MI_blk hm2.out (hF.block gm (by omega))
          have hSG : SG gm u3 A37 NN := by
            refine own_SG (n := Lx.length + Ly.length) (c := c37) (t := 9) (B := gm + 1) ?_ (by omega)
            rw [hM.out, ← hML.out, ← hNNe.out, List.map_append]
            exact ho7
          rw [hML.out]
          refine hK.out _ _ ⟨fun _ => trivial, ?_⟩
          clear hK K hF hg7 hat7 ho7 hJ2 hm2 ho2 hsn2 hnl2
          replace hJ3 := Lib.hid hJ3
          replace hm3 := Lib.hid hm3
          replace hSG := Lib.hid hSG
          try simp only [Act.put, List.getElem_toArray, List.getElem_cons_zero, List.getElem_cons_succ, List.setIfInBounds_toArray, List.set_cons_zero, List.set_cons_succ]
          refine anyT_one (i := 5) (by kernel_rfl) ?_
          refine wpOp_step rfl (fun K hK => ?_)
          replace hK := Lib.hid hK
          go_simp
          refine hK.out _ _ ⟨fun _ => trivial, ?_⟩
          clear hK K
          try simp only [Act.put, List.getElem_toArray, List.getElem_cons_zero, List.getElem_cons_succ, List.setIfInBounds_toArray, List.set_cons_zero, List.set_cons_succ]
          refine anyT_done (by kernel_rfl) ?_ _
          go_wp2_with fail
          go_meet
          case rel => exact ⟨A37, c37, rfl, rfl, rfl, hSG.out, hJ3.out, hm3.out⟩
      ·
        refine wpOp_step rfl (fun K hK => ?_)
        replace hK := Lib.hid hK
        go_simp
        refine hK.out _ _ ⟨fun _ => trivial, ?_⟩
        clear hK K
        try simp only [Act.put, List.getElem_toArray, List.getElem_cons_zero, List.getElem_cons_succ, List.setIfInBounds_toArray, List.set_cons_zero, List.set_cons_succ]
        refine anyT_pair (i := 1) (j := 2) (by kernel_rfl) ?_ ?_
        ·
          refine wpOp_step rfl (fun K hK => ?_)
          replace hK := Lib.hid hK
          go_simp
          (with_reducible refine (hNx.out _ _ _ (hJ0.out.qx.up (by omega))).mono ?_)
          rintro e u1 ⟨v, rfl, hv⟩
          have hb := hv.2
          obtain ⟨A34, c34, rfl⟩ := own_shape hv.1
          have ho1 : u1.ownsRow (gm + 1) 9 1 (.slice A34 Lx.length c34) Lx.length (Lx.map encStr) := by rw [hg0]; exact hv.1
          have hJ1 := hJ0.out.keep (hb.mono (by omega))
          have hm1 := hm0.out.keep (Keep.of_below (F := fun _ => False) hb) (fun h => h)
          have hg1 : gm + 1 ≤ u1.heap.size := by have := hb.size; omega
          refine hK.out _ _ ⟨fun _ => trivial, ?_⟩
          clear hK K hb hv hJ0 hm0
          replace hJ1 := Lib.hid hJ1
          replace hm1 := Lib.hid hm1
          replace ho1 := Lib.hid ho1
          try simp only [Act.put, List.getElem_toArray, List.getElem_cons_zero, List.getElem_cons_succ, List.setIfInBounds_toArray, List.set_cons_zero, List.set_cons_succ]
          refine anyT_one (i := 2) (by kernel_rfl) ?_
          refine wpOp_step rfl (fun K hK => ?_)
          replace hK := Lib.hid hK
          obtain ⟨q0, q1, q2, q3, q4, q5⟩ := hJ1.out.y.all
          go_simp
          refine hK.out _ _ ⟨fun _ => trivial, ?_⟩
          clear hK K q0 q1 q2 q3 q4 q5
          try simp only [Act.put, List.getElem_toArray, List.getElem_cons_zero, List.getElem_cons_succ, List.setIfInBounds_toArray, List.set_cons_zero, List.set_cons_succ]
          refine anyT_one (i := 3) (by kernel_rfl) ?_
          refine wpOp_step rfl (fun K hK => ?_)
          replace hK := Lib.hid hK
          go_simp
          (with_reducible refine (hNy.out _ _ _ (hJ1.out.qy.up (by omega))).mono ?_)
          rintro e u2 ⟨v, rfl, hv⟩
          have hb := hv.2
          obtain ⟨A36, c36, rfl⟩ := own_shape hv.1
          obtain ⟨hsn2, _, hnl2⟩ := own_SN hv.1
          have ho2 := own_keepT ho1.out fun b hb' => hb.block b (own_ltT ho1.out b hb').2
          have hJ2 := hJ1.out.keep (hb.mono (by omega))
          have hm2 := hm1.out.keep (Keep.of_below (F := fun _ => False) hb) (fun h => h)
          have hg2 : gm + 1 ≤ u2.heap.size := by have := hb.size; omega
          refine hK.out _ _ ⟨fun _ => trivial, ?_⟩
          clear hK K hb hv hJ1 hm1 ho1
          replace hJ2 := Lib.hid hJ2
          replace hm2 := Lib.hid hm2
          replace ho2 := Lib.hid ho2
          replace hsn2 := Lib.hid hsn2
          replace hnl2 := Lib.hid hnl2
          try simp only [Act.put, List.getElem_toArray, List.getElem_cons_zero, List.getElem_cons_succ, List.setIfInBounds_toArray, List.set_cons_zero, List.set_cons_succ]
          refine anyT_one (i := 4) (by kernel_rfl) ?_
          refine wpOp_step rfl (fun K hK => ?_)
          replace hK := Lib.hid hK
          refine step_append_SN rfl (.tmp 34) (.tmp 36) rfl (gm + 1) (.slice A34 Lx.length c34) Lx.length (Lx.map encStr) (by simp [Act.eval]) ho2.out A36 Ly.length c36 Ly rfl (by simp [Act.eval]) hnl2.out hsn2.out (by have := hML.out; omega) hg2 ?_
          intro v7 u3 ho7 hg7 hat7
          obtain ⟨A37, c37, rfl⟩ := own_shape ho7
          have hF := grown_facts (g := gm + 1) hg7 (fun g e => (own_ltT ho2.out g e).1) hg2
          have hJ3 := hJ2.out.keep (hF.mono (by omega))
          have hm3 := MI_blk hm2.out (hF.block gm (by omega))
          have hSG : SG gm u3 A37 NN := by
            refine own_SG (n := Lx.length + Ly.length) (c := c37) (t := 9) (B := gm + 1) ?_ (by omega)
            rw [hM.out, ← hML.out, ← hNNe.out, List.map_append]
            exact ho7
          rw [hML.out]
          refine hK.out _ _ ⟨fun _ => trivial, ?_⟩
          clear hK K hF hg7 hat7 ho7 hJ2 hm2 ho2 hsn2 hnl2
          replace hJ3 := Lib.hid hJ3
          replace hm3 := Lib.hid hm3
          replace hSG := Lib.hid hSG
          try simp only [Act.put, List.getElem_toArray, List.getElem_cons_zero, List.getElem_cons_succ, List.setIfInBounds_toArray, List.set_cons_zero, List.set_cons_succ]
          refine anyT_one (i := 5) (by kernel_rfl) ?_
          refine wpOp_step rfl (fun K hK => ?_)
          replace hK := Lib.hid hK
          go_simp
          refine hK.out _ _ ⟨fun _ => trivial, ?_⟩
          clear hK K
          try simp only [Act.put, List.getElem_toArray, List.getElem_cons_zero, List.getElem_cons_succ, List.setIfInBounds_toArray, List.set_cons_zero, List.set_cons_succ]
          refine anyT_done (by kernel_rfl) ?_ _
          go_wp2_with fail
          go_meet
          case rel => exact ⟨A37, c37, rfl, rfl, rfl, hSG.out, hJ3.out, hm3.out⟩
        ·
          refine wpOp_step rfl (fun K hK => ?_)
          replace hK := Lib.hid hK
          obtain ⟨q0, q1, q2, q3, q4, q5⟩ := hJ0.out.y.all
          go_simp
          refine hK.out _ _ ⟨fun _ => trivial, ?_⟩
          clear hK K q0 q1 q2 q3 q4 q5
          try simp only [Act.put, List.getElem_toArray, List.getElem_cons_zero, List.getElem_cons_succ, List.setIfInBounds_toArray, List.set_cons_zero, List.set_cons_succ]
          refine anyT_one (i := 1) (by kernel_rfl) ?_
          refine wpOp_step rfl (fun K hK => ?_)
          replace hK := Lib.hid hK
          go_simp
          (with_reducible refine (hNx.out _ _ _ (hJ0.out.qx.up (by omega))).mono ?_)
          rintro e u1 ⟨v, rfl, hv⟩
          have hb := hv.2
          obtain ⟨A34, c34, rfl⟩ := own_shape hv.1
          have ho1 : u1.ownsRow (gm + 1) 9 1 (.slice A34 Lx.length c34) Lx.length (Lx.map encStr) := by rw [hg0]; exact hv.1
          have hJ1 := hJ0.out.keep (hb.mono (by omega))
          have hm1 := hm0.out.keep (Keep.of_below (F := fun _ => False) hb) (fun h => h)
          have hg1 : gm + 1 ≤ u1.heap.size := by have := hb.size; omega
          refine hK.out _ _ ⟨fun _ => trivial, ?_⟩
          clear hK K hb hv hJ0 hm0
          replace hJ1 := Lib.hid hJ1
          replace hm1 := Lib.hid hm1
          replace ho1 := Lib.hid ho1
          try simp only [Act.put, List.getElem_toArray, List.getElem_cons_zero, List.getElem_cons_succ, List.setIfInBounds_toArray, List.set_cons_zero, List.set_cons_succ]
          refine anyT_one (i := 3) (by kernel_rfl) ?_
          refine wpOp_step rfl (fun K hK => ?_)
          replace hK := Lib.hid hK
          go_simp
          (with_reducible refine (hNy.out _ _ _ (hJ1.out.qy.up (by omega))).mono ?_)
          rintro e u2 ⟨v, rfl, hv⟩
          have hb := hv.2
          obtain ⟨A36, c36, rfl⟩ := own_shape hv.1
          obtain ⟨hsn2, _, hnl2⟩ := own_SN hv.1
          have ho2 := own_keepT ho1.out fun b hb' => hb.block b (own_ltT ho1.out b hb').2
          have hJ2 := hJ1.out.keep (hb.mono (by omega))
          have hm2 := hm1.out.keep (Keep.of_below (F := fun _ => False) hb) (fun h => h)
          have hg2 : gm + 1 ≤ u2.heap.size := by have := hb.size; omega
          refine hK.out _ _ ⟨fun _ => trivial, ?_⟩
          clear hK K hb hv hJ1 hm1 ho1
          replace hJ2 := Lib.hid hJ2
          replace hm2 := Lib.hid hm2
          replace ho2 := Lib.hid ho2
          replace hsn2 := Lib.hid hsn2
          replace hnl2 := Lib.hid hnl2
          try simp only [Act.put, List.getElem_toArray, List.getElem_cons_zero, List.getElem_cons_succ, List.setIfInBounds_toArray, List.set_cons_zero, List.set_cons_succ]
          refine anyT_one (i := 4) (by kernel_rfl) ?_
          refine wpOp_step rfl (fun K hK => ?_)
          replace hK := Lib.hid hK
          refine step_append_SN rfl (.tmp 34) (.tmp 36) rfl (gm + 1) (.slice A34 Lx.length c34) Lx.length (Lx.map encStr) (by simp [Act.eval]) ho2.out A36 Ly.length c36 Ly rfl (by simp [Act.eval]) hnl2.out hsn2.out (by have := hML.out; omega) hg2 ?_
          intro v7 u3 ho7 hg7 hat7
          obtain ⟨A37, c37, rfl⟩ := own_shape ho7
          have hF := grown_facts (g := gm + 1) hg7 (fun g e => (own_ltT ho2.out g e).1) hg2
          have hJ3 := hJ2.out.keep (hF.mono (by omega))
          have hm3 := MI_blk hm2.out (hF.block gm (by omega))
          have hSG : SG gm u3 A37 NN := by
            refine own_SG (n := Lx.length + Ly.length) (c := c37) (t := 9) (B := gm + 1) ?_ (by omega)
            rw [hM.out, ← hML.out, ← hNNe.out, List.map_append]
            exact ho7
          rw [hML.out]
          refine hK.out _ _ ⟨fun _ => trivial, ?_⟩
          clear hK K hF hg7 hat7 ho7 hJ2 hm2 ho2 hsn2 hnl2
          replace hJ3 := Lib.hid hJ3
          replace hm3 := Lib.hid hm3
          replace hSG := Lib.hid hSG
          try simp only [Act.put, List.getElem_toArray, List.getElem_cons_zero, List.getElem_cons_succ, List.setIfInBounds_toArray, List.set_cons_zero, List.set_cons_succ]
          refine anyT_one (i := 5) (by kernel_rfl) ?_
          refine wpOp_step rfl (fun K hK => ?_)
          replace hK := Lib.hid hK
          go_simp
          refine hK.out _ _ ⟨fun _ => trivial, ?_⟩
          clear hK K
          try simp only [Act.put, List.getElem_toArray, List.getElem_cons_zero, List.getElem_cons_succ, List.setIfInBounds_toArray, List.set_cons_zero, List.set_cons_succ]
          refine anyT_done (by kernel_rfl) ?_ _
          go_wp2_with fail
          go_meet
          case rel => exact ⟨A37, c37, rfl, rfl, rfl, hSG.out, hJ3.out, hm3.out⟩
    ·
      refine wpOp_step rfl (fun K hK => ?_)
      replace hK := Lib.hid hK
      obtain ⟨q0, q1, q2, q3, q4, q5⟩ := hJ0.out.y.all
      go_simp
      refine hK.out _ _ ⟨fun _ => trivial, ?_⟩
      clear hK K q0 q1 q2 q3 q4 q5
      try simp only [Act.put, List.getElem_toArray, List.getElem_cons_zero, List.getElem_cons_succ, List.setIfInBounds_toArray, List.set_cons_zero, List.set_cons_succ]
      refine anyT_pair (i := 0) (j := 6) (by kernel_rfl) ?_ ?_
      ·
        refine wpOp_step rfl (fun K hK => ?_)
        replace hK := Lib.hid hK
        obtain ⟨q0, q1, q2, q3, q4, q5⟩ := hJ0.out.x.all
        go_simp
        refine hK.out _ _ ⟨fun _ => trivial, ?_⟩
        clear hK K q0 q1 q2 q3 q4 q5
        try simp only [Act.put, List.getElem_toArray, List.getElem_cons_zero, List.getElem_cons_succ, List.setIfInBounds_toArray, List.set_cons_zero, List.set_cons_succ]
        refine anyT_pair (i := 1) (j := 6) (by kernel_rfl) ?_ ?_
        ·
          refine wpOp_step rfl (fun K hK => ?_)
          replace hK := Lib.hid hK
          go_simp
          (with_reducible refine (hNx.out _ _ _ (hJ0.out.qx.up (by omega))).mono ?_)
          rintro e u1 ⟨v, rfl, hv⟩
          have hb := hv.2
          obtain ⟨A34, c34, rfl⟩ := own_shape hv.1
          have ho1 : u1.ownsRow (gm + 1) 9 1 (.slice A34 Lx.length c34) Lx.length (Lx.map encStr) := by rw [hg0]; exact hv.1
          have hJ1 := hJ0.out.keep (hb.mono (by omega))
          have hm1 := hm0.out.keep (Keep.of_below (F := fun _ => False) hb) (fun h => h)
          have hg1 : gm + 1 ≤ u1.heap.size := by have := hb.size; omega
          refine hK.out _ _ ⟨fun _ => trivial, ?_⟩
          clear hK K hb hv hJ0 hm0
          replace hJ1 := Lib.hid hJ1
          replace hm1 := Lib.hid hm1
          replace ho1 := Lib.hid ho1
          try simp only [Act.put, List.getElem_toArray, List.getElem_cons_zero, List.getElem_cons_succ, List.setIfInBounds_toArray, List.set_cons_zero, List.set_cons_succ]
          refine anyT_pair (i := 3) (j := 6) (by kernel_rfl) ?_ ?_
          ·
            refine wpOp_step rfl (fun K hK => ?_)
            replace hK := Lib.hid hK
            go_simp
            (with_reducible refine (hNy.out _ _ _ (hJ1.out.qy.up (by omega))).mono ?_)
            rintro e u2 ⟨v, rfl, hv⟩
            have hb := hv.2
            obtain ⟨A36, c36, rfl⟩ := own_shape hv.1
            obtain ⟨hsn2, _, hnl2⟩ := own_SN hv.1
            have ho2 := own_keepT ho1.out fun b hb' => hb.block b (own_ltT ho1.out b hb').2
            have hJ2 := hJ1.out.keep (hb.mono (by omega))
            have hm2 := hm1.out.keep (Keep.of_below (F := fun _ => False) hb) (fun h => h)
            have hg2 : gm + 1 ≤ u2.heap.size := by have := hb.size; omega
            refine hK.out _ _ ⟨fun _ => trivial, ?_⟩
            clear hK K hb hv hJ1 hm1 ho1
            replace hJ2 := Lib.hid hJ2
            replace hm2 := Lib.hid hm2
            replace ho2 := Lib.hid ho2
            replace hsn2 := Lib.hid hsn2
            replace hnl2 := Lib.hid hnl2
            try simp only [Act.put, List.getElem_toArray, List.getElem_cons_zero, List.getElem_cons_succ, List.setIfInBounds_toArray, List.set_cons_zero, List.set_cons_succ]
            refine anyT_pair (i := 4) (j := 6) (by kernel_rfl) ?_ ?_
            ·
              refine wpOp_step rfl (fun K hK => ?_)
              replace hK := Lib.hid hK
              refine step_append_SN rfl (.tmp 34) (.tmp 36) rfl (gm + 1) (.slice A34 Lx.length c34) Lx.length (Lx.map encStr) (by simp [Act.eval]) ho2.out A36 Ly.length c36 Ly rfl (by simp [Act.eval]) hnl2.out hsn2.out (by have := hML.out; omega) hg2 ?_
              intro v7 u3 ho7 hg7 hat7
              obtain ⟨A37, c37, rfl⟩ := own_shape ho7
              have hF := grown_facts (g := gm + 1) hg7 (fun g e => (own_ltT ho2.out g e).1) hg2
              have hJ3 := hJ2.out.keep (hF.mono (by omega))
              have hm3 := MI_blk hm2.out (hF.block gm (by omega))
              have hSG : SG gm u3 A37 NN := by
                refine own_SG (n := Lx.length + Ly.length) (c := c37) (t := 9) (B := gm + 1) ?_ (by omega)
                rw [hM.out, ← hML.out, ← hNNe.out, List.map_append]
                exact ho7
              rw [hML.out]
              refine hK.out _ _ ⟨fun _ => trivial, ?_⟩
              clear hK K hF hg7 hat7 ho7 hJ2 hm2 ho2 hsn2 hnl2
              replace hJ3 := Lib.hid hJ3
              replace hm3 := Lib.hid hm3
              replace hSG := Lib.hid hSG
              try simp only [Act.put, List.getElem_toArray, List.getElem_cons_zero, List.getElem_cons_succ, List.setIfInBounds_toArray, List.set_cons_zero, List.set_cons_succ]
              refine anyT_pair (i := 5) (j := 6) (by kernel_rfl) ?_ ?_
              ·
                refine wpOp_step rfl (fun K hK => ?_)
                replace hK := Lib.hid hK
                go_simp
                refine hK.out _ _ ⟨fun _ => trivial, ?_⟩
                clear hK K
                try simp only [Act.put, List.getElem_toArray, List.getElem_cons_zero, List.getElem_cons_succ, List.setIfInBounds_toArray, List.set_cons_zero, List.set_cons_succ]
                refine anyT_one (i := 6) (by kernel_rfl) ?_
                refine wpOp_step rfl (fun K hK => ?_)
                replace hK := Lib.hid hK
                go_simp
                refine hK.out _ _ ⟨fun _ => trivial, ?_⟩
                clear hK K
                try simp only [Act.put, List.getElem_toArray, List.getElem_cons_zero, List.getElem_cons_succ, List.setIfInBounds_toArray, List.set_cons_zero, List.set_cons_succ]
                refine anyT_done (by kernel_rfl) ?_ _
                go_wp2_with fail
                go_meet
                case rel => exact ⟨A37, c37, rfl, rfl, rfl, hSG.out, hJ3.out, hm3.out⟩
              ·
                refine wpOp_step rfl (fun K hK => ?_)
                replace hK := Lib.hid hK
                go_simp
                refine hK.out _ _ ⟨fun _ => trivial, ?_⟩
                clear hK K
                try simp only [Act.put, List.getElem_toArray, List.getElem_cons_zero, List.getElem_cons_succ, List.setIfInBounds_toArray, List.set_cons_zero, List.set_cons_succ]
                refine anyT_one (i := 5) (by kernel_rfl) ?_
                refine wpOp_step rfl (fun K hK => ?_)
                replace hK := Lib.hid hK
                go_simp
                refine hK.out _ _ ⟨fun _ => trivial, ?_⟩
                clear hK K
                try simp only [Act.put, List.getElem_toArray, List.getElem_cons_zero, List.getElem_cons_succ, List.setIfInBounds_toArray, List.set_cons_zero, List.set_cons_succ]
                refine anyT_done (by kernel_rfl) ?_ _
                go_wp2_with fail
                go_meet
                case rel => exact ⟨A37, c37, rfl, rfl, rfl, hSG.out, hJ3.out, hm3.out⟩
            ·
              refine wpOp_step rfl (fun K hK => ?_)
              replace hK := Lib.hid hK
              go_simp
              refine hK.out _ _ ⟨fun _ => trivial, ?_⟩
              clear hK K
              try simp only [Act.put, List.getElem_toArray, List.getElem_cons_zero, List.getElem_cons_succ, List.setIfInBounds_toArray, List.set_cons_zero, List.set_cons_succ]
              refine anyT_one (i := 4) (by kernel_rfl) ?_
              refine wpOp_step rfl (fun K hK => ?_)
              replace hK := Lib.hid hK
              refine step_append_SN rfl (.tmp 34) (.tmp 36) rfl (gm + 1) (.slice A34 Lx.length c34) Lx.length (Lx.map encStr) (by simp [Act.eval]) ho2.out A36 Ly.length c36 Ly rfl (by simp [Act.eval]) hnl2.out hsn2.out (by have := hML.out; omega) hg2 ?_
              intro v7 u3 ho7 hg7 hat7
              obtain ⟨A37, c37, rfl⟩ := own_shape ho7
              have hF := grown_facts (g := gm + 1) hg7 (fun g e => (own_ltT ho2.out g e).1) hg2
              have hJ3 := hJ2.out.keep (hF.mono (by omega))
              have hm3 := MI_blk hm2.out (hF.block gm (by omega))
              have hSG : SG gm u3 A37 NN := by
                refine own_SG (n := Lx.length + Ly.length) (c := c37) (t := 9) (B := gm + 1) ?_ (by omega)
                rw [hM.out, ← hML.out, ← hNNe.out, List.map_append]
                exact ho7
              rw [hML.out]
              refine hK.out _ _ ⟨fun _ => trivial, ?_⟩
              clear hK K hF hg7 hat7 ho7 hJ2 hm2 ho2 hsn2 hnl2
              replace hJ3 := Lib.hid hJ3
              replace hm3 := Lib.hid hm3
              replace hSG := Lib.hid hSG
              try simp only [Act.put, List.getElem_toArray, List.getElem_cons_zero, List.getElem_cons_succ, List.setIfInBounds_toArray, List.set_cons_zero, List.set_cons_succ]
              refine anyT_one (i := 5) (by kernel_rfl) ?_
              refine wpOp_step rfl (fun K hK => ?_)
              replace hK := Lib.hid hK
              go_simp
              refine hK.out _ _ ⟨fun _ => trivial, ?_⟩
              clear hK K
              try simp only [Act.put, List.getElem_toArray, List.getElem_cons_zero, List.getElem_cons_succ, List.setIfInBounds_toArray, List.set_cons_zero, List.set_cons_succ]
              refine anyT_done (by kernel_rfl) ?_ _
              go_wp2_with fail
              go_meet
              case rel => exact ⟨A37, c37, rfl, rfl, rfl, hSG.out, hJ3.out, hm3.out⟩
          ·
            refine wpOp_step rfl (fun K hK => ?_)
            replace hK := Lib.hid hK
            go_simp
            refine hK.out _ _ ⟨fun _ => trivial, ?_⟩
            clear hK K
            try simp only [Act.put, List.getElem_toArray, List.getElem_cons_zero, List.getElem_cons_succ, List.setIfInBounds_toArray, List.set_cons_zero, List.set_cons_succ]
            refine anyT_one (i := 3) (by kernel_rfl) ?_
            refine wpOp_step rfl (fun K hK => ?_)
            replace hK := Lib.hid hK
            go_simp
            (with_reducible refine (hNy.out _ _ _ (hJ1.out.qy.up (by omega))).mono ?_)
            rintro e u2 ⟨v, rfl, hv⟩
            have hb := hv.2
            obtain ⟨A36, c36, rfl⟩ := own_shape hv.1
            obtain ⟨hsn2, _, hnl2⟩ := own_SN hv.1
            have ho2 := own_keepT ho1.out fun b hb' => hb.block b (own_ltT ho1.out b hb').2
            have hJ2 := hJ1.out.keep (hb.mono (by omega))
            have hm2 := hm1.out.keep (Keep.of_below (F := fun _ => False) hb) (fun h => h)
            have hg2 : gm + 1 ≤ u2.heap.size := by have := hb.size; omega
            refine hK.out _ _ ⟨fun _ => trivial, ?_⟩
            clear hK K hb hv hJ1 hm1 ho1
            replace hJ2 := Lib.hid hJ2
            replace hm2 := Lib.hid hm2
            replace ho2 := Lib.hid ho2
            replace hsn2 := Lib.hid hsn2
            replace hnl2 := Lib.hid hnl2
            try simp only [Act.put, List.getElem_toArray, List.getElem_cons_zero, List.getElem_cons_succ, List.setIfInBounds_toArray, List.set_cons_zero, List.set_cons_succ]
            refine anyT_one (i := 4) (by kernel_rfl) ?_
            refine wpOp_step rfl (fun K hK => ?_)
            replace hK := Lib.hid hK
            refine step_append_SN rfl (.tmp 34) (.tmp 36) rfl (gm + 1) (.slice A34 Lx.length c34) Lx.length (Lx.map encStr) (by simp [Act.eval]) ho2.out A36 Ly.length c36 Ly rfl (by simp [Act.eval]) hnl2.out hsn2.out (by have := hML.out; omega) hg2 ?_
            intro v7 u3 ho7 hg7 hat7
            obtain ⟨A37, c37, rfl⟩ := own_shape ho7
            have hF := grown_facts (g := gm + 1) hg7 (fun g e => (own_ltT ho2.out g e).1) hg2
            have hJ3 := hJ2.out.keep (hF.mono (by omega))
            have hm3 := MI_blk hm2.out (hF.block gm (by omega))
            have hSG : SG gm u3 A37 NN := by
              refine own_SG (n := Lx.length + Ly.length) (c := c37) (t := 9) (B := gm + 1) ?_ (by omega)
              rw [hM.out, ← hML.out, ← hNNe.out, List.map_append]
              exact ho7
            rw [hML.out]
            refine hK.out _ _ ⟨fun _ => trivial, ?_⟩
            clear hK K hF hg7 hat7 ho7 hJ2 hm2 ho2 hsn2 hnl2
            replace hJ3 := Lib.hid hJ3
            replace hm3 := Lib.hid hm3
            replace hSG := Lib.hid hSG
            try simp only [Act.put, List.getElem_toArray, List.getElem_cons_zero, List.getElem_cons_succ, List.setIfInBounds_toArray, List.set_cons_zero, List.set_cons_succ]
            refine anyT_one (i := 5) (by kernel_rfl) ?_
            refine wpOp_step rfl (fun K hK => ?_)
            replace hK := Lib.hid hK
            go_simp
            refine hK.out _ _ ⟨fun _ => trivial, ?_⟩
            clear hK K
            try simp only [Act.put, List.getElem_toArray, List.getElem_cons_zero, List.getElem_cons_succ, List.setIfInBounds_toArray, List.set_cons_zero, List.set_cons_succ]
            refine anyT_done (by kernel_rfl) ?_ _
            go_wp2_with fail
            go_meet
            case rel => exact ⟨A37, c37, rfl, rfl, rfl, hSG.out, hJ3.out, hm3.out⟩
        ·
          refine wpOp_step rfl (fun K hK => ?_)
          replace hK := Lib.hid hK
          go_simp
          refine hK.out _ _ ⟨fun _ => trivial, ?_⟩
          clear hK K
          try simp only [Act.put, List.getElem_toArray, List.getElem_cons_zero, List.getElem_cons_succ, List.setIfInBounds_toArray, List.set_cons_zero, List.set_cons_succ]
          refine anyT_one (i := 1) (by kernel_rfl) ?_
          refine wpOp_step rfl (fun K hK => ?_)
          replace hK := Lib.hid hK
          go_simp
          (with_reducible refine (hNx.out _ _ _ (hJ0.out.qx.up (by omega))).mono ?_)
          rintro e u1 ⟨v, rfl, hv⟩
          have hb := hv.2
          obtain ⟨A34, c34, rfl⟩ := own_shape hv.1
          have ho1 : u1.ownsRow (gm + 1) 9 1 (.slice A34 Lx.length c34) Lx.length (Lx.map encStr) := by rw [hg0]; exact hv.1
          have hJ1 := hJ0.out.keep (hb.mono (by omega))
          have hm1 := hm0.out.keep (Keep.of_below (F := fun _ => False) hb) (fun h => h)
          have hg1 : gm + 1 ≤ u1.heap.size := by have := hb.size; omega
          refine hK.out _ _ ⟨fun _ => trivial, ?_⟩
          clear hK K hb hv hJ0 hm0
          replace hJ1 := Lib.hid hJ1
          replace hm1 := Lib.hid hm1
          replace ho1 := Lib.hid ho1
          try simp only [Act.put, List.getElem_toArray, List.getElem_cons_zero, List.getElem_cons_succ, List.setIfInBounds_toArray, List.set_cons_zero, List.set_cons_succ]
          refine anyT_one (i := 3) (by kernel_rfl) ?_
          refine wpOp_step rfl (fun K hK => ?_)
          replace hK := Lib.hid hK
          go_simp
          (with_reducible refine (hNy.out _ _ _ (hJ1.out.qy.up (by omega))).mono ?_)
          rintro e u2 ⟨v, rfl, hv⟩
          have hb := hv.2
          obtain ⟨A36, c36, rfl⟩ := own_shape hv.1
          obtain ⟨hsn2, _, hnl2⟩ := own_SN hv.1
          have ho2 := own_keepT ho1.out fun b hb' => hb.block b (own_ltT ho1.out b hb').2
          have hJ2 := hJ1.out.keep (hb.mono (by omega))
          have hm2 := hm1.out.keep (Keep.of_below (F := fun _ => False) hb) (fun h => h)
          have hg2 : gm + 1 ≤ u2.heap.size := by have := hb.size; omega
          refine hK.out _ _ ⟨fun _ => trivial, ?_⟩
          clear hK K hb hv hJ1 hm1 ho1
          replace hJ2 := Lib.hid hJ2
          replace hm2 := Lib.hid hm2
          replace ho2 := Lib.hid ho2
          replace hsn2 := Lib.hid hsn2
          replace hnl2 := Lib.hid hnl2
          try simp only [Act.put, List.getElem_toArray, List.getElem_cons_zero, List.getElem_cons_succ, List.setIfInBounds_toArray, List.set_cons_zero, List.set_cons_succ]
          refine anyT_one (i := 4) (by kernel_rfl) ?_
          refine wpOp_step rfl (fun K hK => ?_)
          replace hK := Lib.hid hK
          refine step_append_SN rfl (.tmp 34) (.tmp 36) rfl (gm + 1) (.slice A34 Lx.length c34) Lx.length (Lx.map encStr) (by simp [Act.eval]) ho2.out A36 Ly.length c36 Ly rfl (by simp [Act.eval]) hnl2.out hsn2.out (by have := hML.out; omega) hg2 ?_
          intro v7 u3 ho7 hg7 hat7
          obtain ⟨A37, c37, rfl⟩ := own_shape ho7
          have hF := grown_facts (g := gm + 1) hg7 (fun g e => (own_ltT ho2.out g e).1) hg2
          have hJ3 := hJ2.out.keep (hF.mono (by omega))
          have hm3 := MI_blk hm2.out (hF.block gm (by omega))
          have hSG : SG gm u3 A37 NN := by
            refine own_SG (n := Lx.length + Ly.length) (c := c37) (t := 9) (B := gm + 1) ?_ (by omega)
            rw [hM.out, ← hML.out, ← hNNe.out, List.map_append]
            exact ho7
          rw [hML.out]
          refine hK.out _ _ ⟨fun _ => trivial, ?_⟩
          clear hK K hF hg7 hat7 ho7 hJ2 hm2 ho2 hsn2 hnl2
          replace hJ3 := Lib.hid hJ3
          replace hm3 := Lib.hid hm3
          replace hSG := Lib.hid hSG
          try simp only [Act.put, List.getElem_toArray, List.getElem_cons_zero, List.getElem_cons_succ, List.setIfInBounds_toArray, List.set_cons_zero, List.set_cons_succ]
          refine anyT_one (i := 5) (by kernel_rfl) ?_
          refine wpOp_step rfl (fun K hK => ?_)
          replace hK := Lib.hid hK
          go_simp
          refine hK.out _ _ ⟨fun _ => trivial, ?_⟩
          clear hK K
          try simp only [Act.put, List.getElem_toArray, List.getElem_cons_zero, List.getElem_cons_succ, List.setIfInBounds_toArray, List.set_cons_zero, List.set_cons_succ]
          refine anyT_done (by kernel_rfl) ?_ _
          go_wp2_with fail
          go_meet
          case rel => exact ⟨A37, c37, rfl, rfl, rfl, hSG.out, hJ3.out, hm3.out⟩
      ·
        refine wpOp_step rfl (fun K hK => ?_)
        replace hK := Lib.hid hK
        go_simp
        refine hK.out _ _ ⟨fun _ => trivial, ?_⟩
        clear hK K
        try simp only [Act.put, List.getElem_toArray, List.getElem_cons_zero, List.getElem_cons_succ, List.setIfInBounds_toArray, List.set_cons_zero, List.set_cons_succ]
        refine anyT_one (i := 0) (by kernel_rfl) ?_
        refine wpOp_step rfl (fun K hK => ?_)
        replace hK := Lib.hid hK
        obtain ⟨q0, q1, q2, q3, q4, q5⟩ := hJ0.out.x.all
        go_simp
        refine hK.out _ _ ⟨fun _ => trivial, ?_⟩
        clear hK K q0 q1 q2 q3 q4 q5
        try simp only [Act.put, List.getElem_toArray, List.getElem_cons_zero, List.getElem_cons_succ, List.setIfInBounds_toArray, List.set_cons_zero, List.set_cons_succ]
        refine anyT_one (i := 1) (by kernel_rfl) ?_
        refine wpOp_step rfl (fun K hK => ?_)
        replace hK := Lib.hid hK
        go_simp
        (with_reducible refine (hNx.out _ _ _ (hJ0.out.qx.up (by omega))).mono ?_)
        rintro e u1 ⟨v, rfl, hv⟩
        have hb := hv.2
        obtain ⟨A34, c34, rfl⟩ := own_shape hv.1
        have ho1 : u1.ownsRow (gm + 1) 9 1 (.slice A34 Lx.length c34) Lx.length (Lx.map encStr) := by rw [hg0]; exact hv.1
        have hJ1 := hJ0.out.keep (hb.mono (by omega))
        have hm1 := hm0.out.keep (Keep.of_below (F := fun _ => False) hb) (fun h => h)
        have hg1 : gm + 1 ≤ u1.heap.size := by have := hb.size; omega
        refine hK.out _ _ ⟨fun _ => trivial, ?_⟩
        clear hK K hb hv hJ0 hm0
        replace hJ1 := Lib.hid hJ1
        replace hm1 := Lib.hid hm1
        replace ho1 := Lib.hid ho1
        try simp only [Act.put, List.getElem_toArray, List.getElem_cons_zero, List.getElem_cons_succ, List.setIfInBounds_toArray, List.set_cons_zero, List.set_cons_succ]
        refine anyT_one (i := 3) (by kernel_rfl) ?_
        refine wpOp_step rfl (fun K hK => ?_)
        replace hK := Lib.hid hK
        go_simp
        (with_reducible refine (hNy.out _ _ _ (hJ1.out.qy.up (by omega))).mono ?_)
        rintro e u2 ⟨v, rfl, hv⟩
        have hb := hv.2
        obtain ⟨A36, c36, rfl⟩ := own_shape hv.1
        obtain ⟨hsn2, _, hnl2⟩ := own_SN hv.1
        have ho2 := own_keepT ho1.out fun b hb' => hb.block b (own_ltT ho1.out b hb').2
        have hJ2 := hJ1.out.keep (hb.mono (by omega))
        have hm2 := hm1.out.keep (Keep.of_below (F := fun _ => False) hb) (fun h => h)
        have hg2 : gm + 1 ≤ u2.heap.size := by have := hb.size; omega
        refine hK.out _ _ ⟨fun _ => trivial, ?_⟩
        clear hK K hb hv hJ1 hm1 ho1
        replace hJ2 := Lib.hid hJ2
        replace hm2 := Lib.hid hm2
        replace ho2 := Lib.hid ho2
        replace hsn2 := Lib.hid hsn2
        replace hnl2 := Lib.hid hnl2
        try simp only [Act.put, List.getElem_toArray, List.getElem_cons_zero, List.getElem_cons_succ, List.setIfInBounds_toArray, List.set_cons_zero, List.set_cons_succ]
        refine anyT_one (i := 4) (by kernel_rfl) ?_
        refine wpOp_step rfl (fun K hK => ?_)
        replace hK := Lib.hid hK
        refine step_append_SN rfl (.tmp 34) (.tmp 36) rfl (gm + 1) (.slice A34 Lx.length c34) Lx.length (Lx.map encStr) (by simp [Act.eval]) ho2.out A36 Ly.length c36 Ly rfl (by simp [Act.eval]) hnl2.out hsn2.out (by have := hML.out; omega) hg2 ?_
        intro v7 u3 ho7 hg7 hat7
        obtain ⟨A37, c37, rfl⟩ := own_shape ho7
        have hF := grown_facts (g := gm + 1) hg7 (fun g e => (own_ltT ho2.out g e).1) hg2
        have hJ3 := hJ2.out.keep (hF.mono (by omega))
        have hm3 := MI_blk hm2.out (hF.block gm (by omega))
        have hSG : SG gm u3 A37 NN := by
          refine own_SG (n := Lx.length + Ly.length) (c := c37) (t := 9) (B := gm + 1) ?_ (by omega)
          rw [hM.out, ← hML.out, ← hNNe.out, List.map_append]
          exact ho7
        rw [hML.out]
        refine hK.out _ _ ⟨fun _ => trivial, ?_⟩
        clear hK K hF hg7 hat7 ho7 hJ2 hm2 ho2 hsn2 hnl2
        replace hJ3 := Lib.hid hJ3
        replace hm3 := Lib.hid hm3
        replace hSG := Lib.hid hSG
        try simp only [Act.put, List.getElem_toArray, List.getElem_cons_zero, List.getElem_cons_succ, List.setIfInBounds_toArray, List.set_cons_zero, List.set_cons_succ]
        refine anyT_one (i := 5) (by kernel_rfl) ?_
        refine wpOp_step rfl (fun K hK => ?_)
        replace hK := Lib.hid hK
        go_simp
        refine hK.out _ _ ⟨fun _ => trivial, ?_⟩
        clear hK K
        try simp only [Act.put, List.getElem_toArray, List.getElem_cons_zero, List.getElem_cons_succ, List.setIfInBounds_toArray, List.set_cons_zero, List.set_cons_succ]
        refine anyT_done (by kernel_rfl) ?_ _
        go_wp2_with fail
        go_meet
        case rel => exact ⟨A37, c37, rfl, rfl, rfl, hSG.out, hJ3.out, hm3.out⟩
    ·
      refine wpOp_step rfl (fun K hK => ?_)
      replace hK := Lib.hid hK
      go_simp
      refine hK.out _ _ ⟨fun _ => trivial, ?_⟩
      clear hK K
      try simp only [Act.put, List.getElem_toArray, List.getElem_cons_zero, List.getElem_cons_succ, List.setIfInBounds_toArray, List.set_cons_zero, List.set_cons_succ]
      refine anyT_pair (i := 0) (j := 2) (by kernel_rfl) ?_ ?_
      ·
        refine wpOp_step rfl (fun K hK => ?_)
        replace hK := Lib.hid hK
        obtain ⟨q0, q1, q2, q3, q4, q5⟩ := hJ0.out.x.all
        go_simp
        refine hK.out _ _ ⟨fun _ => trivial, ?_⟩
        clear hK K q0 q1 q2 q3 q4 q5
        try simp only [Act.put, List.getElem_toArray, List.getElem_cons_zero, List.getElem_cons_succ, List.setIfInBounds_toArray, List.set_cons_zero, List.set_cons_succ]
        refine anyT_pair (i := 1) (j := 2) (by kernel_rfl) ?_ ?_
        ·
          refine wpOp_step rfl (fun K hK => ?_)
          replace hK := Lib.hid hK
          go_simp
          (with_reducible refine (hNx.out _ _ _ (hJ0.out.qx.up (by omega))).mono ?_)
          rintro e u1 ⟨v, rfl, hv⟩
          have hb := hv.2
          obtain ⟨A34, c34, rfl⟩ := own_shape hv.1
          have ho1 : u1.ownsRow (gm + 1) 9 1 (.slice A34 Lx.length c34) Lx.length (Lx.map encStr) := by rw [hg0]; exact hv.1
          have hJ1 := hJ0.out.keep (hb.mono (by omega))
          have hm1 := hm0.out.keep (Keep.of_below (F := fun _ => False) hb) (fun h => h)
          have hg1 : gm + 1 ≤ u1.heap.size := by have := hb.size; omega
          refine hK.out _ _ ⟨fun _ => trivial, ?_⟩
          clear hK K hb hv hJ0 hm0
          replace hJ1 := Lib.hid hJ1
          replace hm1 := Lib.hid hm1
          replace ho1 := Lib.hid ho1
          try simp only [Act.put, List.getElem_toArray, List.getElem_cons_zero, List.getElem_cons_succ, List.setIfInBounds_toArray, List.set_cons_zero, List.set_cons_succ]
          refine anyT_one (i := 2) (by kernel_rfl) ?_
          refine wpOp_step rfl (fun K hK => ?_)
          replace hK := Lib.hid hK
          obtain ⟨q0, q1, q2, q3, q4, q5⟩ := hJ1.out.y.all
          go_simp
          refine hK.out _ _ ⟨fun _ => trivial, ?_⟩
          clear hK K q0 q1 q2 q3 q4 q5
          try simp only [Act.put, List.getElem_toArray, List.getElem_cons_zero, List.getElem_cons_succ, List.setIfInBounds_toArray, List.set_cons_zero, List.set_cons_succ]
          refine anyT_one (i := 3) (by kernel_rfl) ?_
          refine wpOp_step rfl (fun K hK => ?_)
          replace hK := Lib.hid hK
          go_simp
          (with_reducible refine (hNy.out _ _ _ (hJ1.out.qy.up (by omega))).mono ?_)
          rintro e u2 ⟨v, rfl, hv⟩
          have hb := hv.2
          obtain ⟨A36, c36, rfl⟩ := own_shape hv.1
          obtain ⟨hsn2, _, hnl2⟩ := own_SN hv.1
          have ho2 := own_keepT ho1.out fun b hb' => hb.block b (own_ltT ho1.out b hb').2
          have hJ2 := hJ1.out.keep (hb.mono (by omega))
          have hm2 := hm1.out.keep (Keep.of_below (F := fun _ => False) hb) (fun h => h)
          have hg2 : gm + 1 ≤ u2.heap.size := by have := hb.size; omega
          refine hK.out _ _ ⟨fun _ => trivial, ?_⟩
          clear hK K hb hv hJ1 hm1 ho1
          replace hJ2 := Lib.hid hJ2
          replace hm2 := Lib.hid hm2
          replace ho2 := Lib.hid ho2
          replace hsn2 := Lib.hid hsn2
          replace hnl2 := Lib.hid hnl2
          try simp only [Act.put, List.getElem_toArray, List.getElem_cons_zero, List.getElem_cons_succ, List.setIfInBounds_toArray, List.set_cons_zero, List.set_cons_succ]
          refine anyT_one (i := 4) (by kernel_rfl) ?_
          refine wpOp_step rfl (fun K hK => ?_)
          replace hK := Lib.hid hK
          refine step_append_SN rfl (.tmp 34) (.tmp 36) rfl (gm + 1) (.slice A34 Lx.length c34) Lx.length (Lx.map encStr) (by simp [Act.eval]) ho2.out A36 Ly.length c36 Ly rfl (by simp [Act.eval]) hnl2.out hsn2.out (by have := hML.out; omega) hg2 ?_
          intro v7 u3 ho7 hg7 hat7
          obtain ⟨A37, c37, rfl⟩ := own_shape ho7
          have hF := grown_facts (g := gm + 1) hg7 (fun g e => (own_ltT ho2.out g e).1) hg2
          have hJ3 := hJ2.out.keep (hF.mono (by omega))
          have hm3 := MI_blk hm2.out (hF.block gm (by omega))
          have hSG : SG gm u3 A37 NN := by
            refine own_SG (n := Lx.length + Ly.length) (c := c37) (t := 9) (B := gm + 1) ?_ (by omega)
            rw [hM.out, ← hML.out, ← hNNe.out, List.map_append]
            exact ho7
          rw [hML.out]
          refine hK.out _ _ ⟨fun _ => trivial, ?_⟩
          clear hK K hF hg7 hat7 ho7 hJ2 hm2 ho2 hsn2 hnl2
          replace hJ3 := Lib.hid hJ3
          replace hm3 := Lib.hid hm3
          replace hSG := Lib.hid hSG
          try simp only [Act.put, List.getElem_toArray, List.getElem_cons_zero, List.getElem_cons_succ, List.setIfInBounds_toArray, List.set_cons_zero, List.set_cons_succ]
          refine anyT_one (i := 5) (by kernel_rfl) ?_
          refine wpOp_step rfl (fun K hK => ?_)
          replace hK := Lib.hid hK
          go_simp
          refine hK.out _ _ ⟨fun _ => trivial, ?_⟩
          clear hK K
          try simp only [Act.put, List.getElem_toArray, List.getElem_cons_zero, List.getElem_cons_succ, List.setIfInBounds_toArray, List.set_cons_zero, List.set_cons_succ]
          refine anyT_done (by kernel_rfl) ?_ _
          go_wp2_with fail
          go_meet
          case rel => exact ⟨A37, c37, rfl, rfl, rfl, hSG.out, hJ3.out, hm3.out⟩
        ·
          refine wpOp_step rfl (fun K hK => ?_)
          replace hK := Lib.hid hK
          obtain ⟨q0, q1, q2, q3, q4, q5⟩ := hJ0.out.y.all
          go_simp
          refine hK.out _ _ ⟨fun _ => trivial, ?_⟩
          clear hK K q0 q1 q2 q3 q4 q5
          try simp only [Act.put, List.getElem_toArray, List.getElem_cons_zero, List.getElem_cons_succ, List.setIfInBounds_toArray, List.set_cons_zero, List.set_cons_succ]
          refine anyT_one (i := 1) (by kernel_rfl) ?_
          refine wpOp_step rfl (fun K hK => ?_)
          replace hK := Lib.hid hK
          go_simp
          (with_reducible refine (hNx.out _ _ _ (hJ0.out.qx.up (by omega))).mono ?_)
          rintro e u1 ⟨v, rfl, hv⟩
          have hb := hv.2
          obtain ⟨A34, c34, rfl⟩ := own_shape hv.1
          have ho1 : u1.ownsRow (gm + 1) 9 1 (.slice A34 Lx.length c34) Lx.length (Lx.map encStr) := by rw [hg0]; exact hv.1
          have hJ1 := hJ0.out.keep (hb.mono (by omega))
          have hm1 := hm0.out.keep (Keep.of_below (F := fun _ => False) hb) (fun h => h)
          have hg1 : gm + 1 ≤ u1.heap.size := by have := hb.size; omega
          refine hK.out _ _ ⟨fun _ => trivial, ?_⟩
          clear hK K hb hv hJ0 hm0
          replace hJ1 := Lib.hid hJ1
          replace hm1 := Lib.hid hm1
          replace ho1 := Lib.hid ho1
          try simp only [Act.put, List.getElem_toArray, List.getElem_cons_zero, List.getElem_cons_succ, List.setIfInBounds_toArray, List.set_cons_zero, List.set_cons_succ]
          refine anyT_one (i := 3) (by kernel_rfl) ?_
          refine wpOp_step rfl (fun K hK => ?_)
          replace hK := Lib.hid hK
          go_simp
          (with_reducible refine (hNy.out _ _ _ (hJ1.out.qy.up (by omega))).mono ?_)
          rintro e u2 ⟨v, rfl, hv⟩
          have hb := hv.2
          obtain ⟨A36, c36, rfl⟩ := own_shape hv.1
          obtain ⟨hsn2, _, hnl2⟩ := own_SN hv.1
          have ho2 := own_keepT ho1.out fun b hb' => hb.block b (own_ltT ho1.out b hb').2
          have hJ2 := hJ1.out.keep (hb.mono (by omega))
          have hm2 := hm1.out.keep (Keep.of_below (F := fun _ => False) hb) (fun h => h)
          have hg2 : gm + 1 ≤ u2.heap.size := by have := hb.size; omega
          refine hK.out _ _ ⟨fun _ => trivial, ?_⟩
          clear hK K hb hv hJ1 hm1 ho1
          replace hJ2 := Lib.hid hJ2
          replace hm2 := Lib.hid hm2
          replace ho2 := Lib.hid ho2
          replace hsn2 := Lib.hid hsn2
          replace hnl2 := Lib.hid hnl2
          try simp only [Act.put, List.getElem_toArray, List.getElem_cons_zero, List.getElem_cons_succ, List.setIfInBounds_toArray, List.set_cons_zero, List.set_cons_succ]
          refine anyT_one (i := 4) (by kernel_rfl) ?_
          refine wpOp_step rfl (fun K hK => ?_)
          replace hK := Lib.hid hK
          refine step_append_SN rfl (.tmp 34) (.tmp 36) rfl (gm + 1) (.slice A34 Lx.length c34) Lx.length (Lx.map encStr) (by simp [Act.eval]) ho2.out A36 Ly.length c36 Ly rfl (by simp [Act.eval]) hnl2.out hsn2.out (by have := hML.out; omega) hg2 ?_
          intro v7 u3 ho7 hg7 hat7
          obtain ⟨A37, c37, rfl⟩ := own_shape ho7
          have hF := grown_facts (g := gm + 1) hg7 (fun g e => (own_ltT ho2.out g e).1) hg2
          have hJ3 := hJ2.out.keep (hF.mono (by omega))
          have hm3 := MI_blk hm2.out (hF.block gm (by omega))
          have hSG : SG gm u3 A37 NN := by
            refine own_SG (n := Lx.length + Ly.length) (c := c37) (t := 9) (B := gm + 1) ?_ (by omega)
            rw [hM.out, ← hML.out, ← hNNe.out, List.map_append]
            exact ho7
          rw [hML.out]
          refine hK.out _ _ ⟨fun _ => trivial, ?_⟩
          clear hK K hF hg7 hat7 ho7 hJ2 hm2 ho2 hsn2 hnl2
          replace hJ3 := Lib.hid hJ3
          replace hm3 := Lib.hid hm3
          replace hSG := Lib.hid hSG
          try simp only [Act.put, List.getElem_toArray, List.getElem_cons_zero, List.getElem_cons_succ, List.setIfInBounds_toArray, List.set_cons_zero, List.set_cons_succ]
          refine anyT_one (i := 5) (by kernel_rfl) ?_
          refine wpOp_step rfl (fun K hK => ?_)
          replace hK := Lib.hid hK
          go_simp
          refine hK.out _ _ ⟨fun _ => trivial, ?_⟩
          clear hK K
          try simp only [Act.put, List.getElem_toArray, List.getElem_cons_zero, List.getElem_cons_succ, List.setIfInBounds_toArray, List.set_cons_zero, List.set_cons_succ]
          refine anyT_done (by kernel_rfl) ?_ _
          go_wp2_with fail
          go_meet
          case rel => exact ⟨A37, c37, rfl, rfl, rfl, hSG.out, hJ3.out, hm3.out⟩
      ·
        refine wpOp_step rfl (fun K hK => ?_)
        replace hK := Lib.hid hK
        obtain ⟨q0, q1, q2, q3, q4, q5⟩ := hJ0.out.y.all
        go_simp
        refine hK.out _ _ ⟨fun _ => trivial, ?_⟩
        clear hK K q0 q1 q2 q3 q4 q5
        try simp only [Act.put, List.getElem_toArray, List.getElem_cons_zero, List.getElem_cons_succ, List.setIfInBounds_toArray, List.set_cons_zero, List.set_cons_succ]
        refine anyT_one (i := 0) (by kernel_rfl) ?_
        refine wpOp_step rfl (fun K hK => ?_)
        replace hK := Lib.hid hK
        obtain ⟨q0, q1, q2, q3, q4, q5⟩ := hJ0.out.x.all
        go_simp
        refine hK.out _ _ ⟨fun _ => trivial, ?_⟩
        clear hK K q0 q1 q2 q3 q4 q5
        try simp only [Act.put, List.getElem_toArray, List.getElem_cons_zero, List.getElem_cons_succ, List.setIfInBounds_toArray, List.set_cons_zero, List.set_cons_succ]
        refine anyT_one (i := 1) (by kernel_rfl) ?_
        refine wpOp_step rfl (fun K hK => ?_)
        replace hK := Lib.hid hK
        go_simp
        (with_reducible refine (hNx.out _ _ _ (hJ0.out.qx.up (by omega))).mono ?_)
        rintro e u1 ⟨v, rfl, hv⟩
        have hb := hv.2
        obtain ⟨A34, c34, rfl⟩ := own_shape hv.1
        have ho1 : u1.ownsRow (gm + 1) 9 1 (.slice A34 Lx.length c34) Lx.length (Lx.map encStr) := by rw [hg0]; exact hv.1
        have hJ1 := hJ0.out.keep (hb.mono (by omega))
        have hm1 := hm0.out.keep (Keep.of_below (F := fun _ => False) hb) (fun h => h)
        have hg1 : gm + 1 ≤ u1.heap.size := by have := hb.size; omega
        refine hK.out _ _ ⟨fun _ => trivial, ?_⟩
        clear hK K hb hv hJ0 hm0
        replace hJ1 := Lib.hid hJ1
        replace hm1 := Lib.hid hm1
        replace ho1 := Lib.hid ho1
        try simp only [Act.put, List.getElem_toArray, List.getElem_cons_zero, List.getElem_cons_succ, List.setIfInBounds_toArray, List.set_cons_zero, List.set_cons_succ]
        refine anyT_one (i := 3) (by kernel_rfl) ?_
        refine wpOp_step rfl (fun K hK => ?_)
        replace hK := Lib.hid hK
        go_simp
        (with_reducible refine (hNy.out _ _ _ (hJ1.out.qy.up (by omega))).mono ?_)
        rintro e u2 ⟨v, rfl, hv⟩
        have hb := hv.2
        obtain ⟨A36, c36, rfl⟩ := own_shape hv.1
        obtain ⟨hsn2, _, hnl2⟩ := own_SN hv.1
        have ho2 := own_keepT ho1.out fun b hb' => hb.block b (own_ltT ho1.out b hb').2
        have hJ2 := hJ1.out.keep (hb.mono (by omega))
        have hm2 := hm1.out.keep (Keep.of_below (F := fun _ => False) hb) (fun h => h)
        have hg2 : gm + 1 ≤ u2.heap.size := by have := hb.size; omega
        refine hK.out _ _ ⟨fun _ => trivial, ?_⟩
        clear hK K hb hv hJ1 hm1 ho1
        replace hJ2 := Lib.hid hJ2
        replace hm2 := Lib.hid hm2
        replace ho2 := Lib.hid ho2
        replace hsn2 := Lib.hid hsn2
        replace hnl2 := Lib.hid hnl2
        try simp only [Act.put, List.getElem_toArray, List.getElem_cons_zero, List.getElem_cons_succ, List.setIfInBounds_toArray, List.set_cons_zero, List.set_cons_succ]
        refine anyT_one (i := 4) (by kernel_rfl) ?_
        refine wpOp_step rfl (fun K hK => ?_)
        replace hK := Lib.hid hK
        refine step_append_SN rfl (.tmp 34) (.tmp 36) rfl (gm + 1) (.slice A34 Lx.length c34) Lx.length (Lx.map encStr) (by simp [Act.eval]) ho2.out A36 Ly.length c36 Ly rfl (by simp [Act.eval]) hnl2.out hsn2.out (by have := hML.out; omega) hg2 ?_
        intro v7 u3 ho7 hg7 hat7
        obtain ⟨A37, c37, rfl⟩ := own_shape ho7
        have hF := grown_facts (g := gm + 1) hg7 (fun g e => (own_ltT ho2.out g e).1) hg2
        have hJ3 := hJ2.out.keep (hF.mono (by omega))
        have hm3 := MI_blk hm2.out (hF.block gm (by omega))
        have hSG : SG gm u3 A37 NN := by
          refine own_SG (n := Lx.length + Ly.length) (c := c37) (t := 9) (B := gm + 1) ?_ (by omega)
          rw [hM.out, ← hML.out, ← hNNe.out, List.map_append]
          exact ho7
        rw [hML.out]
        refine hK.out _ _ ⟨fun _ => trivial, ?_⟩
        clear hK K hF hg7 hat7 ho7 hJ2 hm2 ho2 hsn2 hnl2
        replace hJ3 := Lib.hid hJ3
        replace hm3 := Lib.hid hm3
        replace hSG := Lib.hid hSG
        try simp only [Act.put, List.getElem_toArray, List.getElem_cons_zero, List.getElem_cons_succ, List.setIfInBounds_toArray, List.set_cons_zero, List.set_cons_succ]
        refine anyT_one (i := 5) (by kernel_rfl) ?_
        refine wpOp_step rfl (fun K hK => ?_)
        replace hK := Lib.hid hK
        go_simp
        refine hK.out _ _ ⟨fun _ => trivial, ?_⟩
        clear hK K
        try simp only [Act.put, List.getElem_toArray, List.getElem_cons_zero, List.getElem_cons_succ, List.setIfInBounds_toArray, List.set_cons_zero, List.set_cons_succ]
        refine anyT_done (by kernel_rfl) ?_ _
        go_wp2_with fail
        go_meet
        case rel => exact ⟨A37, c37, rfl, rfl, rfl, hSG.out, hJ3.out, hm3.out⟩
  case rest =>
    obtain ⟨A37, c37, rfl, rfl, rfl, hS, hJc, hmc⟩ := hcut
    clear hJ hm1 hzm hNx hNy
    rename World => z7
    replace hS := Lib.hid hS
    replace hJc := Lib.hid hJc
    replace hmc := Lib.hid hmc
    go_wp2_with fail
    go_loopw [39] (fun iv wr => ∃ (k nj : Nat), k ≤ M ∧ nj ≤ k ∧ iv = .int .i64 (k : Int) ∧ SG gm wr A37 NN ∧ JS w gm gx gy (gr + 1) tx ty TE Ax nx cx Ay ny cy (some ⟨gr, 0, none⟩) wr ∧ MapIs wr gm nj (DM (es12 (NN.take k) []))) (fun iv _ => M - (RowKit.intOf iv).toNat)
    case atStart => exact ⟨0, 0, Nat.zero_le _, Nat.le_refl _, rfl, hS.out, hJc.out, by simpa using hmc.out⟩
    case round =>
      obtain ⟨k, nj, hk, hnj, rfl, hSr, hJr, hmr⟩ := hrel
      clear hS hJc hmc
      have hgl := hmr.lt
      by_cases hlt : k < M
      · have hkl : k < NN.length := by rw [hM.out]; exact hlt
        have hw1 : IntKind.i64.wrap ((k : Int) + 1) = (k : Int) + 1 := IntWalk.i64_in _ (by omega)
        obtain ⟨b, o, rfl, hgb, hbl, hc⟩ := hSr (by omega)
        have hck := hc k hkl
        have hx64 := hsN.out _ (List.getElem_mem hkl)
        have htk : NN.take (k + 1) = NN.take k ++ [NN[k]] := (List.take_append_getElem hkl).symm
        obtain ⟨x, hx⟩ : ∃ x, NN[k] = x := ⟨_, rfl⟩
        rw [hx] at hck hx64 htk
        obtain ⟨E, hEe⟩ : ∃ E : ByteArray, ⟨x.toArray⟩ = E := ⟨_, rfl⟩
        have hck' : wr.cell? ⟨b, o + k, none⟩ = some (.string E) := by rw [hck, ← hEe]
        have hks : E.size ≤ maxLen := by
          rw [← hEe]
          show x.toArray.size ≤ maxLen
          rw [List.size_toArray]
          unfold maxLen
          omega
        have hwf : (Lit.int .i64 1).wf = true := by decide
        have hdm : DM (es12 (NN.take (k + 1)) []) = (DM (es12 (NN.take k) [])).put (.string E.data.toList) (.lit (.int .i64 1)) := by
          rw [htk, es12_snoc1, DM_snoc, ← hEe]
          rfl
        replace hdm := Lib.hid hdm
        replace hSr := Lib.hid hSr
        replace hJr := Lib.hid hJr
        replace hmr := Lib.hid hmr
        clear hc hck hx hEe htk hx64
        go_wp2_with (first | (at_mapUpdate; refine wpList_mapUpdate_own _ rfl _ _ _ 44 rfl 9 3 kS Try.underlying44 _ gm _ _ rfl hmr.out (by unfold maxLen; omega) _ _ _ rfl rfl (WideMaps.keyOf_string_mk Try.underlying9 hks) _ [] (plainElem_int Try.underlying3 hwf) ?_; intro w8 hm8 hg8; go_frame) | fail)
        have hlt8 := hmr.out.lt
        have hF := grown_facts (g := gm) hg8 (fun b e => by cases e; exact Nat.le_refl _) (by omega)
        have hJ8 := hJr.out.keep hF
        have hS8 := hSr.out.keep (fun b hb hbl => hg8.block b hbl (by intro e; cases e; omega)) hg8.size
        rw [← hdm.out] at hm8
        replace hJ8 := Lib.hid hJ8
        replace hS8 := Lib.hid hS8
        replace hm8 := Lib.hid hm8
        clear hF hg8 hlt8
        go_roundw
        case rel => exact ⟨k + 1, nj + 1, by omega, by omega, by go_num, hS8.out, hJ8.out, hm8.out⟩
        case measure => (simp [RowKit.intOf]; omega)
      · obtain rfl : k = M := by omega
        have htk : NN.take k = NN := by rw [← hM.out, List.take_length]
        rw [htk] at hmr
        obtain ⟨e0, e1, e2, e3, e4, e5⟩ := hJr.e.all
        have el := hJr.e.lt
        replace hJr := Lib.hid hJr
        replace hmr := Lib.hid hmr
        clear hSr htk
        dsimp only at e0 e1 e2 e3 e4 e5
        go_wp2_with fail
        (with_reducible refine (hNe.out _ _ _ (hJr.out.qe.up (by omega))).mono ?_)
        rintro e z8 ⟨v, rfl, hv⟩
        have hb8 := hv.2
        obtain ⟨A11, c11, rfl⟩ := own_shape hv.1
        have hS8 := own_SG hv.1 hgl
        have hJ8 := hJr.out.keep (hb8.mono (by omega))
        have hm8 := hmr.out.keep (Keep.of_below (F := fun _ => False) hb8) (fun h => h)
        obtain ⟨N, hN⟩ : ∃ N, L.length = N := ⟨_, rfl⟩
        rw [hN]
        have hNN2 : N ≤ 4000 := hN ▸ hlL2.out
        replace hN := Lib.hid hN
        clear hJr hmr hv hb8 e0 e1 e2 e3 e4 e5 el hNe hgl
        replace hS8 := Lib.hid hS8
        replace hJ8 := Lib.hid hJ8
        replace hm8 := Lib.hid hm8
        obtain ⟨n0, hn0⟩ : ∃ n0, nj = n0 := ⟨_, rfl⟩
        rw [hn0] at hm8 hnj
        go_wp2_with fail
        go_loopw [50] (fun iv wr => ∃ (j nj : Nat), j ≤ N ∧ nj ≤ k + j ∧ iv = .int .i64 (j : Int) ∧ SG gm wr A11 L ∧ JS w gm gx gy (gr + 1) tx ty TE Ax nx cx Ay ny cy (some ⟨gr, 0, none⟩) wr ∧ MapIs wr gm nj (DM (es12 NN (L.take j)))) (fun iv _ => N - (RowKit.intOf iv).toNat)
        case atStart => exact ⟨0, n0, Nat.zero_le _, by omega, rfl, hS8.out, hJ8.out, by simpa using hm8.out⟩
        case round =>
          obtain ⟨j, nj, hj, hnj2, rfl, hSr, hJr, hmr⟩ := hrel
          clear hS8 hJ8 hm8
          by_cases hlj : j < N
          · have hkl : j < L.length := by rw [hN.out]; exact hlj
            have hw1 : IntKind.i64.wrap ((j : Int) + 1) = (j : Int) + 1 := IntWalk.i64_in _ (by omega)
            obtain ⟨b, o, rfl, hgb, hbl, hc⟩ := hSr (by omega)
            have hck := hc j hkl
            have hx64 := hsN.out L[j] (by have := (hmem.out L[j]).1 (List.getElem_mem hkl); simpa using this)
            have htk : L.take (j + 1) = L.take j ++ [L[j]] := (List.take_append_getElem hkl).symm
            have hev := henv.out j hkl
            have hpr : ∀ i (hi : i + 1 = j), ∃ hi2 : i < L.length, L[i] < L[j] := fun i hi => ⟨by omega, List.pairwise_iff_getElem.1 hasc.out i j (by omega) hkl (by omega)⟩
            have hcp : ∀ i (hi : i < L.length), wr.cell? ⟨b, o + i, none⟩ = some (encStr L[i]) := hc
            obtain ⟨x, hx⟩ : ∃ x, L[j] = x := ⟨_, rfl⟩
            rw [hx] at hck hx64 htk hev hpr
            obtain ⟨E, hEe⟩ : ∃ E : ByteArray, ⟨x.toArray⟩ = E := ⟨_, rfl⟩
            have hck' : wr.cell? ⟨b, o + j, none⟩ = some (.string E) := by rw [hck, ← hEe]
            have hEl : E.toList = x := by rw [← hEe, tab_list]
            have hks : E.size ≤ maxLen := by
              rw [← hEe]
              show x.toArray.size ≤ maxLen
              rw [List.size_toArray]
              unfold maxLen
              omega
            have hwf : (Lit.int .i64 2).wf = true := by decide
            have hEd : E.data.toList = x := by rw [← hEe]
            have hget : (DM (es12 NN (L.take j))).atKey (.string E.data.toList) (.lit (.int .i64 0)) = .lit (.int .i64 1) := by
              rw [hEd, (DM_ag _).get, hev]
              rfl
            have hdm : DM (es12 NN (L.take (j + 1))) = (DM (es12 NN (L.take j))).put (.string E.data.toList) (.lit (.int .i64 2)) := by
              rw [htk, es12_snoc2, DM_snoc, ← hEe]
              rfl
            replace hget := Lib.hid hget
            replace hdm := Lib.hid hdm
            replace hSr := Lib.hid hSr
            replace hJr := Lib.hid hJr
            replace hmr := Lib.hid hmr
            replace hpr := Lib.hid hpr
            replace hcp := Lib.hid hcp
            replace hEl := Lib.hid hEl
            clear hc hck hx hEe htk hx64 hev hEd
            rcases Nat.eq_zero_or_pos j with hj0 | hj0
            · subst hj0
              rw [Nat.add_zero] at hck'
              go_wp2_with (first | (at_lookup; refine wpList_lookup_own_int _ rfl _ _ 44 rfl 9 3 .i64 kS Try.underlying44 Try.underlying3 (zI _) gm nj _ rfl hmr.out _ _ rfl (WideMaps.keyOf_string_mk Try.underlying9 hks) ?_; intro c9 hat hwc; obtain rfl : c9 = 1 := (by have e := hat.symm.trans hget.out; injection e with e; injection e); clear hat hwc) | (at_mapUpdate; refine wpList_mapUpdate_own _ rfl _ _ _ 44 rfl 9 3 kS Try.underlying44 _ gm _ _ rfl hmr.out (by unfold maxLen; omega) _ _ _ rfl rfl (WideMaps.keyOf_string_mk Try.underlying9 hks) _ [] (plainElem_int Try.underlying3 hwf) ?_; intro w8 hm8 hg8; go_frame) | fail)
              have hlt8 := hmr.out.lt
              have hF := grown_facts (g := gm) hg8 (fun b e => by cases e; exact Nat.le_refl _) (by omega)
              have hJ8 := hJr.out.keep hF
              have hS8 := hSr.out.keep (fun b hb hbl => hg8.block b hbl (by intro e; cases e; omega)) hg8.size
              rw [← hdm.out] at hm8
              replace hJ8 := Lib.hid hJ8
              replace hS8 := Lib.hid hS8
              replace hm8 := Lib.hid hm8
              clear hF hg8 hlt8
              go_roundw
              case rel => exact ⟨0 + 1, nj + 1, by omega, by omega, by go_num, hS8.out, hJ8.out, hm8.out⟩
              case measure => (simp [RowKit.intOf]; omega)
            · obtain ⟨i, hi⟩ : ∃ i, j = i + 1 := ⟨j - 1, by omega⟩
              obtain ⟨hi2, hil⟩ := hpr.out i hi.symm
              have hci := hcp.out i hi2
              obtain ⟨F, hFe⟩ : ∃ F : ByteArray, ⟨(L[i]).toArray⟩ = F := ⟨_, rfl⟩
              have hci' : wr.cell? ⟨b, o + i, none⟩ = some (.string F) := by rw [hci, ← hFe]
              have hFl : F.toList = L[i] := by rw [← hFe, tab_list]
              have hbl2 : Op.bytesLess F.toList E.toList = true := by rw [Go.Proofs.bytesLess_eq, hFl, hEl.out]; simpa using hil
              have hwi : IntKind.i64.wrap ((j : Int) - 1) = (i : Int) := by rw [hi]; rw [IntWalk.i64_in _ (by omega)]; omega
              have hjp : decide ((0 : Int) < (j : Int)) = true := by simp; omega
              have hjp2 : (0 : Int) < (j : Int) := by omega
              have hiN : i < N := by omega
              clear hci hFe hFl hil hi2
              replace hi := Lib.hid hi
              go_wp2_with (first | (at_lookup; refine wpList_lookup_own_int _ rfl _ _ 44 rfl 9 3 .i64 kS Try.underlying44 Try.underlying3 (zI _) gm nj _ rfl hmr.out _ _ rfl (WideMaps.keyOf_string_mk Try.underlying9 hks) ?_; intro c9 hat hwc; obtain rfl : c9 = 1 := (by have e := hat.symm.trans hget.out; injection e with e; injection e); clear hat hwc) | (at_mapUpdate; refine wpList_mapUpdate_own _ rfl _ _ _ 44 rfl 9 3 kS Try.underlying44 _ gm _ _ rfl hmr.out (by unfold maxLen; omega) _ _ _ rfl rfl (WideMaps.keyOf_string_mk Try.underlying9 hks) _ [] (plainElem_int Try.underlying3 hwf) ?_; intro w8 hm8 hg8; go_frame) | fail)
              have hlt8 := hmr.out.lt
              have hF := grown_facts (g := gm) hg8 (fun b e => by cases e; exact Nat.le_refl _) (by omega)
              have hJ8 := hJr.out.keep hF
              have hS8 := hSr.out.keep (fun b hb hbl => hg8.block b hbl (by intro e; cases e; omega)) hg8.size
              rw [← hdm.out] at hm8
              replace hJ8 := Lib.hid hJ8
              replace hS8 := Lib.hid hS8
              replace hm8 := Lib.hid hm8
              clear hF hg8 hlt8
              go_roundw
              case rel => exact ⟨j + 1, nj + 1, by omega, by omega, by go_num, hS8.out, hJ8.out, hm8.out⟩
              case measure => (simp [RowKit.intOf]; omega)
          · obtain rfl : j = N := by omega
            have htk : L.take j = L := by rw [← hN.out, List.take_length]
            rw [htk] at hmr
            have hsz : Maps.size (DM (es12 NN L)) = j := by
              rw [hsec.out _ L rfl (fun x hx => by have := (hmem.out x).1 hx; simpa using this), hsize.out, hN.out]
            have hgl := hmr.lt
            replace hsz := Lib.hid hsz
            replace hJr := Lib.hid hJr
            replace hmr := Lib.hid hmr
            clear hSr htk henv hasc hmem hsize hsec
            go_upto_region 20 with fail
            obtain ⟨u0, hu0⟩ : ∃ W, wr.drew = W := ⟨_, rfl⟩
            have hbd : Below wr.heap.size wr wr.drew := (Below.refl _ _).drew
            have hJ0 := hJr.out.keep (hbd.mono (by omega))
            have hm0 := hmr.out.keep (Keep.of_below (F := fun _ => False) hbd) (fun h => h)
            have hg0 : gm < u0.heap.size := by rw [← hu0]; exact hgl
            rw [hu0] at hJ0 hm0
            clear hbd hJr hmr hgl
            have hC0 := Lib.hid (⟨hJ0.e, hJ0.x, hJ0.y, hm0⟩ : BX u0 (gr + 1) 36 ⟨6, 0, 0, 0, ⟨#[]⟩⟩ (some ⟨gr, 0, none⟩) 2 2 ∧ BX u0 gx 36 tx.h Ax nx cx ∧ BX u0 gy 36 ty.h Ay ny cy ∧ MapIs u0 gm nj (DM (es12 NN L)))
            replace hJ0 := Lib.hid hJ0
            replace hm0 := Lib.hid hm0
            refine region_anyT (n := 16) (S := (fun w' => BX w' (gr + 1) 36 ⟨6, 0, 0, 0, ⟨#[]⟩⟩ (some ⟨gr, 0, none⟩) 2 2 ∧ BX w' gx 36 tx.h Ax nx cx ∧ BX w' gy 36 ty.h Ay ny cy ∧ MapIs w' gm nj (DM (es12 NN L)))) (by kernel_rfl) ?_
            rw [hu0]
            refine anyT_take (i := 0) (v := .slice A11 j c11) rfl (by kernel_rfl) (by kernel_rfl) (fun _ _ _ h => h) (Or.inl ⟨by rfl, ?_⟩) hC0.out ?_
            · intro w' hw'
              obtain ⟨q0, q1, q2, q3, q4, q5⟩ := hw'.1.all
              obtain ⟨r0, r1, r2, r3, r4, r5⟩ := hw'.2.1.all
              obtain ⟨t0, t1, t2, t3, t4, t5⟩ := hw'.2.2.1.all
              have hln : ∀ ty, (Builtin.len_ #[44] ty #[.map (some gm)]).run Try.prog w' = .ok (.int .i64 (j : Int)) w' := fun ty => by rw [← hsz.out]; exact hw'.2.2.2.len Try.underlying44 ty
              dsimp only at q0 q1 q2 q3 q4 q5
              clear hw'
              go_simp
              try with_reducible rfl
            try simp only [Act.put, List.getElem_toArray, List.getElem_cons_zero, List.setIfInBounds_toArray, List.set_cons_zero, List.set_cons_succ]
            refine anyT_take (i := 1) (v := .int .i64 (j : Int)) rfl (by kernel_rfl) (by kernel_rfl) (fun _ _ _ h => h) (Or.inl ⟨by rfl, ?_⟩) hC0.out ?_
            · intro w' hw'
              obtain ⟨q0, q1, q2, q3, q4, q5⟩ := hw'.1.all
              obtain ⟨r0, r1, r2, r3, r4, r5⟩ := hw'.2.1.all
              obtain ⟨t0, t1, t2, t3, t4, t5⟩ := hw'.2.2.1.all
              have hln : ∀ ty, (Builtin.len_ #[44] ty #[.map (some gm)]).run Try.prog w' = .ok (.int .i64 (j : Int)) w' := fun ty => by rw [← hsz.out]; exact hw'.2.2.2.len Try.underlying44 ty
              dsimp only at q0 q1 q2 q3 q4 q5
              clear hw'
              go_simp
              try with_reducible rfl
            try simp only [Act.put, List.getElem_toArray, List.getElem_cons_zero, List.getElem_cons_succ, List.setIfInBounds_toArray, List.set_cons_zero, List.set_cons_succ]
            refine anyT_take (i := 2) (v := .map (some gm)) rfl (by kernel_rfl) (by kernel_rfl) (fun _ _ _ h => h) (Or.inl ⟨by rfl, ?_⟩) hC0.out ?_
            · intro w' hw'
              obtain ⟨q0, q1, q2, q3, q4, q5⟩ := hw'.1.all
              obtain ⟨r0, r1, r2, r3, r4, r5⟩ := hw'.2.1.all
              obtain ⟨t0, t1, t2, t3, t4, t5⟩ := hw'.2.2.1.all
              have hln : ∀ ty, (Builtin.len_ #[44] ty #[.map (some gm)]).run Try.prog w' = .ok (.int .i64 (j : Int)) w' := fun ty => by rw [← hsz.out]; exact hw'.2.2.2.len Try.underlying44 ty
              dsimp only at q0 q1 q2 q3 q4 q5
              clear hw'
              go_simp
              try with_reducible rfl
            try simp only [Act.put, List.getElem_toArray, List.getElem_cons_zero, List.getElem_cons_succ, List.setIfInBounds_toArray, List.set_cons_zero, List.set_cons_succ]
            refine anyT_take (i := 3) (v := .int .i64 (j : Int)) rfl (by kernel_rfl) (by kernel_rfl) (fun _ _ _ h => h) (Or.inl ⟨by rfl, ?_⟩) hC0.out ?_
            · intro w' hw'
              obtain ⟨q0, q1, q2, q3, q4, q5⟩ := hw'.1.all
              obtain ⟨r0, r1, r2, r3, r4, r5⟩ := hw'.2.1.all
              obtain ⟨t0, t1, t2, t3, t4, t5⟩ := hw'.2.2.1.all
              have hln : ∀ ty, (Builtin.len_ #[44] ty #[.map (some gm)]).run Try.prog w' = .ok (.int .i64 (j : Int)) w' := fun ty => by rw [← hsz.out]; exact hw'.2.2.2.len Try.underlying44 ty
              dsimp only at q0 q1 q2 q3 q4 q5
              clear hw'
              go_simp
              try with_reducible rfl
            try simp only [Act.put, List.getElem_toArray, List.getElem_cons_zero, List.getElem_cons_succ, List.setIfInBounds_toArray, List.set_cons_zero, List.set_cons_succ]
            refine anyT_take (i := 4) (v := .bool true) rfl (by kernel_rfl) (by kernel_rfl) (fun _ _ _ h => h) (Or.inl ⟨by rfl, ?_⟩) hC0.out ?_
            · intro w' hw'
              obtain ⟨q0, q1, q2, q3, q4, q5⟩ := hw'.1.all
              obtain ⟨r0, r1, r2, r3, r4, r5⟩ := hw'.2.1.all
              obtain ⟨t0, t1, t2, t3, t4, t5⟩ := hw'.2.2.1.all
              have hln : ∀ ty, (Builtin.len_ #[44] ty #[.map (some gm)]).run Try.prog w' = .ok (.int .i64 (j : Int)) w' := fun ty => by rw [← hsz.out]; exact hw'.2.2.2.len Try.underlying44 ty
              dsimp only at q0 q1 q2 q3 q4 q5
              clear hw'
              go_simp
              try with_reducible rfl
            try simp only [Act.put, List.getElem_toArray, List.getElem_cons_zero, List.getElem_cons_succ, List.setIfInBounds_toArray, List.set_cons_zero, List.set_cons_succ]
            refine anyT_take (i := 5) (v := .bool true) rfl (by kernel_rfl) (by kernel_rfl) (fun _ _ _ h => h) (Or.inl ⟨by rfl, ?_⟩) hC0.out ?_
            · intro w' hw'
              obtain ⟨q0, q1, q2, q3, q4, q5⟩ := hw'.1.all
              obtain ⟨r0, r1, r2, r3, r4, r5⟩ := hw'.2.1.all
              obtain ⟨t0, t1, t2, t3, t4, t5⟩ := hw'.2.2.1.all
              have hln : ∀ ty, (Builtin.len_ #[44] ty #[.map (some gm)]).run Try.prog w' = .ok (.int .i64 (j : Int)) w' := fun ty => by rw [← hsz.out]; exact hw'.2.2.2.len Try.underlying44 ty
              dsimp only at q0 q1 q2 q3 q4 q5
              clear hw'
              go_simp
              try with_reducible rfl
            try simp only [Act.put, List.getElem_toArray, List.getElem_cons_zero, List.getElem_cons_succ, List.setIfInBounds_toArray, List.set_cons_zero, List.set_cons_succ]
            refine anyT_take (i := 6) (v := .agg #[.int .i64 6, .int .i64 0, .int .i64 0, .int .i64 0, .string ⟨#[]⟩, .slice (some ⟨gr, 0, none⟩) 2 2]) rfl (by kernel_rfl) (by kernel_rfl) (fun _ _ _ h => h) (Or.inl ⟨by rfl, ?_⟩) hC0.out ?_
            · intro w' hw'
              obtain ⟨q0, q1, q2, q3, q4, q5⟩ := hw'.1.all
              obtain ⟨r0, r1, r2, r3, r4, r5⟩ := hw'.2.1.all
              obtain ⟨t0, t1, t2, t3, t4, t5⟩ := hw'.2.2.1.all
              have hln : ∀ ty, (Builtin.len_ #[44] ty #[.map (some gm)]).run Try.prog w' = .ok (.int .i64 (j : Int)) w' := fun ty => by rw [← hsz.out]; exact hw'.2.2.2.len Try.underlying44 ty
              dsimp only at q0 q1 q2 q3 q4 q5
              clear hw'
              go_simp
              try with_reducible rfl
            try simp only [Act.put, List.getElem_toArray, List.getElem_cons_zero, List.getElem_cons_succ, List.setIfInBounds_toArray, List.set_cons_zero, List.set_cons_succ]
            refine anyT_take (i := 8) (v := .agg #[.int .i64 tx.h.k, .int .i64 tx.h.f, .int .i64 tx.h.l, .int .i64 tx.h.c, .string tx.h.s, .slice Ax nx cx]) rfl (by kernel_rfl) (by kernel_rfl) (fun _ _ _ h => h) (Or.inl ⟨by rfl, ?_⟩) hC0.out ?_
            · intro w' hw'
              obtain ⟨q0, q1, q2, q3, q4, q5⟩ := hw'.1.all
              obtain ⟨r0, r1, r2, r3, r4, r5⟩ := hw'.2.1.all
              obtain ⟨t0, t1, t2, t3, t4, t5⟩ := hw'.2.2.1.all
              have hln : ∀ ty, (Builtin.len_ #[44] ty #[.map (some gm)]).run Try.prog w' = .ok (.int .i64 (j : Int)) w' := fun ty => by rw [← hsz.out]; exact hw'.2.2.2.len Try.underlying44 ty
              dsimp only at q0 q1 q2 q3 q4 q5
              clear hw'
              go_simp
              try with_reducible rfl
            try simp only [Act.put, List.getElem_toArray, List.getElem_cons_zero, List.getElem_cons_succ, List.setIfInBounds_toArray, List.set_cons_zero, List.set_cons_succ]
            refine anyT_take (i := 10) (v := .agg #[.int .i64 ty.h.k, .int .i64 ty.h.f, .int .i64 ty.h.l, .int .i64 ty.h.c, .string ty.h.s, .slice Ay ny cy]) rfl (by kernel_rfl) (by kernel_rfl) (fun _ _ _ h => h) (Or.inl ⟨by rfl, ?_⟩) hC0.out ?_
            · intro w' hw'
              obtain ⟨q0, q1, q2, q3, q4, q5⟩ := hw'.1.all
              obtain ⟨r0, r1, r2, r3, r4, r5⟩ := hw'.2.1.all
              obtain ⟨t0, t1, t2, t3, t4, t5⟩ := hw'.2.2.1.all
              have hln : ∀ ty, (Builtin.len_ #[44] ty #[.map (some gm)]).run Try.prog w' = .ok (.int .i64 (j : Int)) w' := fun ty => by rw [← hsz.out]; exact hw'.2.2.2.len Try.underlying44 ty
              dsimp only at q0 q1 q2 q3 q4 q5
              clear hw'
              go_simp
              try with_reducible rfl
            try simp only [Act.put, List.getElem_toArray, List.getElem_cons_zero, List.getElem_cons_succ, List.setIfInBounds_toArray, List.set_cons_zero, List.set_cons_succ]
            clear hC0
            refine anyT_one (i := 7) (by kernel_rfl) ?_
            refine wpOp_step rfl (fun K hK => ?_)
            replace hK := Lib.hid hK
            go_simp
            (with_reducible refine (hDe.out _ _ _ (hJ0.out.qe.up (by omega))).mono ?_)
            rintro e u1 ⟨rfl, hb⟩
            have hJ1 := hJ0.out.keep (hb.mono (by omega))
            have hm1 := hm0.out.keep (Keep.of_below (F := fun _ => False) hb) (fun h => h)
            have hg1 : gm < u1.heap.size := Nat.lt_of_lt_of_le hg0 hb.size
            refine hK.out _ _ ⟨fun _ => ⟨hJ1.e, hJ1.x, hJ1.y, hm1⟩, ?_⟩
            clear hK K hb hJ0 hm0
            replace hJ1 := Lib.hid hJ1
            replace hm1 := Lib.hid hm1
            try simp only [Act.put, List.getElem_toArray, List.getElem_cons_zero, List.getElem_cons_succ, List.setIfInBounds_toArray, List.set_cons_zero, List.set_cons_succ]
            refine anyT_one (i := 9) (by kernel_rfl) ?_
            refine wpOp_step rfl (fun K hK => ?_)
            replace hK := Lib.hid hK
            go_simp
            (with_reducible refine (hDx.out _ _ _ (hJ1.out.qx.up (by omega))).mono ?_)
            rintro e u2 ⟨rfl, hb⟩
            have hJ2 := hJ1.out.keep (hb.mono (by omega))
            have hm2 := hm1.out.keep (Keep.of_below (F := fun _ => False) hb) (fun h => h)
            have hg2 : gm < u2.heap.size := Nat.lt_of_lt_of_le hg1 hb.size
            refine hK.out _ _ ⟨fun _ => ⟨hJ2.e, hJ2.x, hJ2.y, hm2⟩, ?_⟩
            clear hK K hb hJ1 hm1
            replace hJ2 := Lib.hid hJ2
            replace hm2 := Lib.hid hm2
            try simp only [Act.put, List.getElem_toArray, List.getElem_cons_zero, List.getElem_cons_succ, List.setIfInBounds_toArray, List.set_cons_zero, List.set_cons_succ]
            refine anyT_one (i := 11) (by kernel_rfl) ?_
            refine wpOp_step rfl (fun K hK => ?_)
            replace hK := Lib.hid hK
            go_simp
            (with_reducible refine (hDy.out _ _ _ (hJ2.out.qy.up (by omega))).mono ?_)
            rintro e u3 ⟨rfl, hb⟩
            have hJ3 := hJ2.out.keep (hb.mono (by omega))
            have hm3 := hm2.out.keep (Keep.of_below (F := fun _ => False) hb) (fun h => h)
            have hg3 : gm < u3.heap.size := Nat.lt_of_lt_of_le hg2 hb.size
            refine hK.out _ _ ⟨fun _ => ⟨hJ3.e, hJ3.x, hJ3.y, hm3⟩, ?_⟩
            clear hK K hb hJ2 hm2
            replace hJ3 := Lib.hid hJ3
            replace hm3 := Lib.hid hm3
            try simp only [Act.put, List.getElem_toArray, List.getElem_cons_zero, List.getElem_cons_succ, List.setIfInBounds_toArray, List.set_cons_zero, List.set_cons_succ]
            refine anyT_take (i := 12) (v := .int .i64 U) rfl (by kernel_rfl) (by kernel_rfl) (fun _ _ _ h => h) (Or.inl ⟨by rfl, ?_⟩) ⟨hJ3.out.e, hJ3.out.x, hJ3.out.y, hm3.out⟩ ?_
            · intro w' hw'
              obtain ⟨q0, q1, q2, q3, q4, q5⟩ := hw'.1.all
              obtain ⟨r0, r1, r2, r3, r4, r5⟩ := hw'.2.1.all
              obtain ⟨t0, t1, t2, t3, t4, t5⟩ := hw'.2.2.1.all
              have hln : ∀ ty, (Builtin.len_ #[44] ty #[.map (some gm)]).run Try.prog w' = .ok (.int .i64 (j : Int)) w' := fun ty => by rw [← hsz.out]; exact hw'.2.2.2.len Try.underlying44 ty
              dsimp only at q0 q1 q2 q3 q4 q5
              clear hw'
              go_simp
              try with_reducible rfl
            try simp only [Act.put, List.getElem_toArray, List.getElem_cons_zero, List.getElem_cons_succ, List.setIfInBounds_toArray, List.set_cons_zero, List.set_cons_succ]
            refine anyT_take (i := 13) (v := .int .i64 Z) rfl (by kernel_rfl) (by kernel_rfl) (fun _ _ _ h => h) (Or.inl ⟨by rfl, ?_⟩) ⟨hJ3.out.e, hJ3.out.x, hJ3.out.y, hm3.out⟩ ?_
            · intro w' hw'
              obtain ⟨q0, q1, q2, q3, q4, q5⟩ := hw'.1.all
              obtain ⟨r0, r1, r2, r3, r4, r5⟩ := hw'.2.1.all
              obtain ⟨t0, t1, t2, t3, t4, t5⟩ := hw'.2.2.1.all
              have hln : ∀ ty, (Builtin.len_ #[44] ty #[.map (some gm)]).run Try.prog w' = .ok (.int .i64 (j : Int)) w' := fun ty => by rw [← hsz.out]; exact hw'.2.2.2.len Try.underlying44 ty
              dsimp only at q0 q1 q2 q3 q4 q5
              clear hw'
              go_simp
              try with_reducible rfl
            try simp only [Act.put, List.getElem_toArray, List.getElem_cons_zero, List.getElem_cons_succ, List.setIfInBounds_toArray, List.set_cons_zero, List.set_cons_succ]
            refine anyT_take (i := 14) (v := .bool true) rfl (by kernel_rfl) (by kernel_rfl) (fun _ _ _ h => h) (Or.inl ⟨by rfl, ?_⟩) ⟨hJ3.out.e, hJ3.out.x, hJ3.out.y, hm3.out⟩ ?_
            · intro w' hw'
              obtain ⟨q0, q1, q2, q3, q4, q5⟩ := hw'.1.all
              obtain ⟨r0, r1, r2, r3, r4, r5⟩ := hw'.2.1.all
              obtain ⟨t0, t1, t2, t3, t4, t5⟩ := hw'.2.2.1.all
              have hln : ∀ ty, (Builtin.len_ #[44] ty #[.map (some gm)]).run Try.prog w' = .ok (.int .i64 (j : Int)) w' := fun ty => by rw [← hsz.out]; exact hw'.2.2.2.len Try.underlying44 ty
              dsimp only at q0 q1 q2 q3 q4 q5
              clear hw'
              go_simp
              try with_reducible rfl
            try simp only [Act.put, List.getElem_toArray, List.getElem_cons_zero, List.getElem_cons_succ, List.setIfInBounds_toArray, List.set_cons_zero, List.set_cons_succ]
            refine anyT_take (i := 15) (v := .bool true) rfl (by kernel_rfl) (by kernel_rfl) (fun _ _ _ h => h) (Or.inl ⟨by rfl, ?_⟩) ⟨hJ3.out.e, hJ3.out.x, hJ3.out.y, hm3.out⟩ ?_
            · intro w' hw'
              obtain ⟨q0, q1, q2, q3, q4, q5⟩ := hw'.1.all
              obtain ⟨r0, r1, r2, r3, r4, r5⟩ := hw'.2.1.all
              obtain ⟨t0, t1, t2, t3, t4, t5⟩ := hw'.2.2.1.all
              have hln : ∀ ty, (Builtin.len_ #[44] ty #[.map (some gm)]).run Try.prog w' = .ok (.int .i64 (j : Int)) w' := fun ty => by rw [← hsz.out]; exact hw'.2.2.2.len Try.underlying44 ty
              dsimp only at q0 q1 q2 q3 q4 q5
              clear hw'
              go_simp
              try with_reducible rfl
            try simp only [Act.put, List.getElem_toArray, List.getElem_cons_zero, List.getElem_cons_succ, List.setIfInBounds_toArray, List.set_cons_zero, List.set_cons_succ]
            refine anyT_one (i := 16) (by kernel_rfl) ?_
            refine wpOp_step rfl (fun K hK => ?_)
            replace hK := Lib.hid hK
            go_simp
            refine hK.out _ _ ⟨fun h => absurd h (by decide), ?_⟩
            clear hK K
            try simp only [Act.put, List.getElem_toArray, List.getElem_cons_zero, List.getElem_cons_succ, List.setIfInBounds_toArray, List.set_cons_zero, List.set_cons_succ]
            refine anyT_done (by kernel_rfl) ?_ _
            go_wp2_with fail
            go_ret
            exact ⟨rfl, hJ3.out.k⟩
end Go.Proofs.Ytljiiniocnljmaa

/- Do where it does something: a noop. -/
import Derived.Test.YtgejmeankppmhaaDoorOdo3M
namespace Go.Proofs.YtgejmeankppmhaaDoor
open Go.RowKit
open Bh (En ecell)
set_option maxRecDepth 20000

set_option maxHeartbeats 4000000 in
theorem do_good (i : Im) (e : En) (w : World) (hi : i.ok) (h : e.Reads w) (ht : Tab w) (hs : Hs i.L i.B e.ix = false) (hg : Gd i.L i.B) (hr : Room i.L e.ix) (hk : e.kd = 1) (hp : (iput i e.fr e.ct e.da).2 = 0) (hl : i.l.length ≤ 100000) (hd : e.da.length ≤ 100000) :
    Calls Tryd.prog 9 #[imv i, .agg e.cells] w fun r w' => r = .returned (.tuple #[imv ⟨(mset i.L i.B e.ix).1, (mset i.L i.B e.ix).2, (iput i e.fr e.ct e.da).1.l, addT i.T e.cl e.rq⟩, .int .i64 0]) ∧ Below w.heap.size w w' := by
  have HH := Lib.hid (fun W => has_any i.L i.B e.ix W hi.1 hi.2.1 h.ix)
  have hT8 := Lib.hid hi.2.2.1
  have h08 : I0.T.length = 8 := rfl
  rw [hs] at HH
  have HS := Lib.hid (fun W (hT : Tab W) => set_ok i.L i.B e.ix W hg.1 hi.2.1 hT hr)
  have HP := Lib.hid (fun W => iput_any i e.fr e.ct e.da W hi.2.2.1 h.look.2.2.1 h.look.2.2.2 hl hd)
  rw [hp, iput_parts] at HP
  obtain ⟨l', hl'⟩ : ∃ q, (iput i e.fr e.ct e.da).1.l = q := ⟨_, rfl⟩
  rw [hl'] at HP ⊢
  have HA := Lib.hid (fun W => add8_any i.T e.cl e.rq W hi.2.2 h.look.2.1)
  have hU8 := Lib.hid (addT_ok hi.2.2 e.cl e.rq h.look.2.1).1
  obtain ⟨b, hb⟩ : ∃ b, (!decide (addT i.T e.cl e.rq = i.T)) = b := ⟨_, rfl⟩
  rw [hb] at HA
  obtain ⟨U, hU⟩ : ∃ q, addT i.T e.cl e.rq = q := ⟨_, rfl⟩
  rw [hU] at HA hU8 ⊢
  clear hl' hp hl hd hU hb
  clear hi h hs hg hr
  obtain ⟨ix, tm, st, kd, cl, rq, fr, ct, da, A, bn, bc, ls⟩ := e
  unfold En.cells at *
  dsimp only at *
  subst hk
  go_enter Tryd.func9, Tryd.ntmps9
  go_wp2_with (first
    | (refine wpL_rbox (cs := icells i) (o := ⟨some 2, _, _, _, _, _⟩) rfl (.tmp 0) rfl rfl ?_; intro W0 p2 hN; obtain ⟨hb2, hr2, hl2, hz2⟩ := hN)
    | (refine imA.wpNew (o := ⟨some 4, _, _, _, _, _⟩) rfl rfl ?_; intro W p4 hN; obtain ⟨hb4, hr4, hl4, hz4⟩ := hN
       have hb3 : Below W0.heap.size W0 (W0.alloc (.cells #[.int .u64 (ix : Int), .int .u64 (tm : Int), .int .u64 (st : Int), .int .i64 1, .int .u64 (cl : Int), .int .u64 (rq : Int), .int .u32 (fr : Int), .int .u32 (ct : Int), .string (str da), .slice A bn bc] 43)) := (Below.refl _ _).alloc (Nat.le_refl _) _
       have HD := Lib.hid (show D3 w W p2 W0.heap.size p4 i ⟨ix, tm, st, 1, cl, rq, fr, ct, da, A, bn, bc, ls⟩ 32 from ⟨row_below (row_below hr2.out hb3) hl4, row_below (heap_alloc_new W0 _) hl4, hr4.out, hl2.trans ((hb3.trans (hl4.mono (by simp))).mono hl2.size), by have := hb2.out; have := hz2.out; have := hb4.out; simp at this; omega⟩)
       obtain ⟨p3, hp3⟩ : ∃ p3, W0.heap.size = p3 := ⟨_, rfl⟩
       rw [hp3] at HD ⊢
       have c0 := icell0 HD.out.r2
       have c1 := icell1 HD.out.r2
       have e0 := ecell HD.out.r3 0
       unfold En.cells at e0
       dsimp only at e0
       clear hb2 hr2 hl2 hz2 hb3 hb4 hr4 hl4 hz4 hp3)
    | (go_at_call 20; refine (HH.out _).mono ?_; rintro e w1 ⟨rfl, hb1⟩
       have HD1 := Lib.hid (HD.out.below hb1)
       clear hb1 HD c0 c1 e0
       have c0 := icell0 HD1.out.r2
       have c1 := icell1 HD1.out.r2
       have e0 := ecell HD1.out.r3 0
       unfold En.cells at e0
       dsimp only at e0)
    | (go_at_call 19; refine (HS.out _ (ht.below HD1.out.bel)).mono ?_; rintro e w2 ⟨rfl, hb2⟩
       have HE := Lib.hid (HD1.out.below hb2)
       clear hb2 HD1 c0 c1 e0
       obtain ⟨M1, hM1⟩ : ∃ x, x = (mset i.L i.B ix).1 := ⟨_, rfl⟩
       obtain ⟨M2, hM2⟩ : ∃ x, x = (mset i.L i.B ix).2 := ⟨_, rfl⟩
       rw [← hM1, ← hM2]
       have hM := Lib.hid (And.intro hM1 hM2)
       clear hM1 hM2
       have HF := Lib.hid (heap_alloc_new w2 (.cells #[.int .u64 (M1 : Int), .int .u64 (M2 : Int)] 25))
       have HG := Lib.hid ((Below.refl w2.heap.size w2).alloc (Nat.le_refl _) (.cells #[.int .u64 (M1 : Int), .int .u64 (M2 : Int)] 25))
       have HI := Lib.hid (HE.out.below HG.out))
    | (refine imA.wpLoad (by rfl) (.tmp 2) rfl rfl HI.out.r2 hT8.out ?_)
    | (refine imA.wpNew (o := ⟨some 8, _, _, _, _, _⟩) rfl rfl ?_; intro W8 p8 hN; obtain ⟨hb8, hr8, hl8, hz8⟩ := hN
       have H5 := Lib.hid (D5.new (M := (M1, M2)) HE.out HG.out rfl HF.out hl8 hb8.out hr8.out)
       obtain ⟨p6, hp6⟩ : ∃ p6, w2.heap.size = p6 := ⟨_, rfl⟩
       rw [hp6] at H5 ⊢
       clear hb8 hr8 hl8 hz8 HG HF HE hp6 HI)
    | (refine imA.wpStore rfl (.tmp 8) (.tmp 27) rfl rfl rfl H5.out.r8 h08 hT8.out ?_; intro W9 hr9 hg9 hz9
       have H6 := Lib.hid (H5.out.set8 hr9.out hg9)
       have e3 := ecell H6.out.d.r3 3
       unfold En.cells at e3
       dsimp only at e3
       have e6 := ecell H6.out.d.r3 6
       have e7 := ecell H6.out.d.r3 7
       have e8 := ecell H6.out.d.r3 8
       unfold En.cells at e6 e7 e8
       dsimp only at e6 e7 e8
       clear H5 hr9 hg9 hz9)
    | (go_at_call 26; refine (HP.out _).mono ?_; rintro e w3 ⟨rfl, hb3⟩
       have H6b := Lib.hid (H6.out.below hb3)
       clear hb3 H6 e3 e6 e7 e8)
    | (refine imA.wpStore rfl (.tmp 8) (.tmp 38) rfl rfl rfl H6b.out.r8 hT8.out (j := ⟨i.L, i.B, l', i.T⟩) hT8.out ?_; intro W11 hr11 hg11 hz11
       have H6c := Lib.hid (H6b.out.set8 hr11.out hg11)
       have e4 := ecell H6c.out.d.r3 4
       have e5 := ecell H6c.out.d.r3 5
       unfold En.cells at e4 e5
       dsimp only at e4 e5
       clear H6b hr11 hg11 hz11)
    | (refine imA.wpLoad (by rfl) (.tmp 2) rfl rfl H6.out.d.r2 hT8.out ?_)
    | (refine wpL_midk (by rfl) 30 (.tmp 45) rfl _ rfl (tbv i.T) (imA.loadsT H6c.out.d.r2 hT8.out) ?_
       intro K hK
       go_simp
       refine hK _ _ ?_
       clear hK K)
    | (go_at_call 27; refine (HA.out _).mono ?_; rintro e w4 ⟨rfl, hb4⟩
       have H6d := Lib.hid (H6c.out.below hb4)
       clear hb4 H6c e4 e5)
    | (refine st_table imA (.tmp 54) (.tmp 52) rfl rfl rfl rfl H6d.out hT8.out hU8.out ?_
       intro w12 H6e
       clear H6d)
    | (refine wpL_midk (by rfl) 25 (.tmp 6) rfl _ rfl (.agg #[.int .u64 (M1 : Int), .int .u64 (M2 : Int)]) (run_loadAt_mid w12 p6 0 25 _ _ (World.rangeAt_of_block H6e.out.r6 0 2) imA.mund rfl (by rw [imA.msize]; rfl)) ?_
       intro K hK
       go_simp
       refine hK _ _ ?_
       clear hK K
       go_step
       go_step
       go_step
       refine st_marks imA (.tmp 56) (.tmp 55) rfl rfl rfl rfl H6e.out hU8.out ?_
       intro w10 H7
       clear H6e)
    | (refine imA.wpLoad (by rfl) (.tmp 8) rfl rfl H7.out.r8 hU8.out ?_)
    | (refine imA.wpStore rfl (.tmp 4) (.tmp 57) rfl rfl rfl H7.out.d.r4 h08 hU8.out ?_; intro W5 hr5 hg5 hz5)
    | fail)
  obtain ⟨rfl, rfl⟩ := hM.out
  refine bodyPost_ret (results_cell_tmp rfl _ p4 32 _ (0, 0) _ rfl hr5.out imA.und rfl (by rw [imA.size]; simp; exact (icells_19 (i := ⟨_, _, l', U⟩) hU8.out).symm)) rfl ⟨rfl, H7.out.d.bel.grown hg5 H7.out.d.bel.size (fun k e => by cases e; exact H7.out.d.lo.2.1)⟩
end Go.Proofs.YtgejmeankppmhaaDoor

/- Do where it does something: a noop. -/
import Derived.Test.YtgejmeankppmhaaDoorOdo3M
namespace Go.Proofs.YtgejmeankppmhaaDoor
open Go.RowKit
open Bh (En ecell)
set_option maxRecDepth 20000

set_option maxHeartbeats 4000000 in
theorem rdo_bad (i : Im) (e : En) (w : World) (hi : i.ok) (h : e.Reads w) (hs : Hs i.L i.B e.ix = false) (hg : Gd i.L i.B) (hr : Room i.L e.ix) (hk : e.kd = 1) (hp : (iput i e.fr e.ct e.da).2 ≠ 0) (hl : i.l.length ≤ 100000) (hd : e.da.length ≤ 100000) :
    Calls Tryd.prog 10 #[imv i, .agg e.cells] w fun r w' => r = .returned (.tuple #[imv i, .int .i64 (iput i e.fr e.ct e.da).2]) ∧ Below w.heap.size w w' := by
  have HH := Lib.hid (fun W => rhas_any i.L i.B e.ix W hi.1 hi.2.1 h.ix)
  have hT8 := Lib.hid hi.2.2.1
  have h08 : I0.T.length = 8 := rfl
  rw [hs] at HH
  have HS := Lib.hid (fun W => rset_ok i.L i.B e.ix W hi.2.1 hg hr)
  have HP := Lib.hid (fun W => riput_any i e.fr e.ct e.da W hi.2.2.1 h.look.2.2.1 h.look.2.2.2 hl hd)
  rw [iput_bad hp] at HP
  obtain ⟨q, hq⟩ : ∃ q, (iput i e.fr e.ct e.da).2 = q := ⟨_, rfl⟩
  rw [hq] at HP hp ⊢
  clear hq
  clear hi h hs hg hr
  obtain ⟨ix, tm, st, kd, cl, rq, fr, ct, da, A, bn, bc, ls⟩ := e
  unfold En.cells at *
  dsimp only at *
  subst hk
  go_enter Tryd.func10, Tryd.ntmps10
  go_wp2_with (first
    | (refine wpL_rbox (cs := icells i) (o := ⟨some 2, _, _, _, _, _⟩) rfl (.tmp 0) rfl rfl ?_; intro W0 p2 hN; obtain ⟨hb2, hr2, hl2, hz2⟩ := hN)
    | (refine imB.wpNew (o := ⟨some 4, _, _, _, _, _⟩) rfl rfl ?_; intro W p4 hN; obtain ⟨hb4, hr4, hl4, hz4⟩ := hN
       have hb3 : Below W0.heap.size W0 (W0.alloc (.cells #[.int .u64 (ix : Int), .int .u64 (tm : Int), .int .u64 (st : Int), .int .i64 1, .int .u64 (cl : Int), .int .u64 (rq : Int), .int .u32 (fr : Int), .int .u32 (ct : Int), .string (str da), .slice A bn bc] 43)) := (Below.refl _ _).alloc (Nat.le_refl _) _
       have HD := Lib.hid (show D3 w W p2 W0.heap.size p4 i ⟨ix, tm, st, 1, cl, rq, fr, ct, da, A, bn, bc, ls⟩ 51 from ⟨row_below (row_below hr2.out hb3) hl4, row_below (heap_alloc_new W0 _) hl4, hr4.out, hl2.trans ((hb3.trans (hl4.mono (by simp))).mono hl2.size), by have := hb2.out; have := hz2.out; have := hb4.out; simp at this; omega⟩)
       obtain ⟨p3, hp3⟩ : ∃ p3, W0.heap.size = p3 := ⟨_, rfl⟩
       rw [hp3] at HD ⊢
       have c0 := icell0 HD.out.r2
       have c1 := icell1 HD.out.r2
       have e0 := ecell HD.out.r3 0
       unfold En.cells at e0
       dsimp only at e0
       clear hb2 hr2 hl2 hz2 hb3 hb4 hr4 hl4 hz4 hp3)
    | (go_at_call 28; refine (HH.out _).mono ?_; rintro e w1 ⟨rfl, hb1⟩
       have HD1 := Lib.hid (HD.out.below hb1)
       clear hb1 HD c0 c1 e0
       have c0 := icell0 HD1.out.r2
       have c1 := icell1 HD1.out.r2
       have e0 := ecell HD1.out.r3 0
       unfold En.cells at e0
       dsimp only at e0)
    | (go_at_call 29; refine (HS.out _ ).mono ?_; rintro e w2 ⟨rfl, hb2⟩
       have HE := Lib.hid (HD1.out.below hb2)
       clear hb2 HD1 c0 c1 e0
       obtain ⟨M1, hM1⟩ : ∃ x, x = (mset i.L i.B ix).1 := ⟨_, rfl⟩
       obtain ⟨M2, hM2⟩ : ∃ x, x = (mset i.L i.B ix).2 := ⟨_, rfl⟩
       rw [← hM1, ← hM2]
       have hM := Lib.hid (And.intro hM1 hM2)
       clear hM1 hM2
       have HF := Lib.hid (heap_alloc_new w2 (.cells #[.int .u64 (M1 : Int), .int .u64 (M2 : Int)] 37))
       have HG := Lib.hid ((Below.refl w2.heap.size w2).alloc (Nat.le_refl _) (.cells #[.int .u64 (M1 : Int), .int .u64 (M2 : Int)] 37))
       have HI := Lib.hid (HE.out.below HG.out))
    | (refine imB.wpLoad (by rfl) (.tmp 2) rfl rfl HI.out.r2 hT8.out ?_)
    | (refine imB.wpNew (o := ⟨some 8, _, _, _, _, _⟩) rfl rfl ?_; intro W8 p8 hN; obtain ⟨hb8, hr8, hl8, hz8⟩ := hN
       have H5 := Lib.hid (D5.new (M := (M1, M2)) HE.out HG.out rfl HF.out hl8 hb8.out hr8.out)
       obtain ⟨p6, hp6⟩ : ∃ p6, w2.heap.size = p6 := ⟨_, rfl⟩
       rw [hp6] at H5 ⊢
       clear hb8 hr8 hl8 hz8 HG HF HE hp6 HI)
    | (refine imB.wpStore rfl (.tmp 8) (.tmp 28) rfl rfl rfl H5.out.r8 h08 hT8.out ?_; intro W9 hr9 hg9 hz9
       have H6 := Lib.hid (H5.out.set8 hr9.out hg9)
       have e3 := ecell H6.out.d.r3 3
       unfold En.cells at e3
       dsimp only at e3
       have e6 := ecell H6.out.d.r3 6
       have e7 := ecell H6.out.d.r3 7
       have e8 := ecell H6.out.d.r3 8
       unfold En.cells at e6 e7 e8
       dsimp only at e6 e7 e8
       clear H5 hr9 hg9 hz9)
    | (go_at_call 30; refine (HP.out _).mono ?_; rintro e w3 ⟨rfl, hb3⟩
       have H6b := Lib.hid (H6.out.below hb3)
       clear hb3 H6 e3 e6 e7 e8)
    | (refine imB.wpStore rfl (.tmp 8) (.tmp 43) rfl rfl rfl H6b.out.r8 hT8.out hT8.out ?_; intro W11 hr11 hg11 hz11
       have H7 := Lib.hid (H6b.out.set8 hr11.out hg11)
       clear H6b hr11 hg11 hz11)
    | (refine imB.wpLoad (by rfl) (.tmp 2) rfl rfl H7.out.d.r2 hT8.out ?_)
    | (refine imB.wpLoad (by rfl) (.tmp 2) rfl rfl H6.out.d.r2 hT8.out ?_)
    | (refine imB.wpStore rfl (.tmp 4) (.tmp 47) rfl rfl rfl H7.out.d.r4 h08 hT8.out ?_; intro W5 hr5 hg5 hz5)
    | fail)
  refine bodyPost_ret (results_cell_tmp rfl _ p4 51 _ (0, 0) _ rfl hr5.out imB.und rfl (by rw [imB.size]; simp; exact (icells_19 hT8.out).symm)) rfl ⟨rfl, H7.out.d.bel.grown hg5 H7.out.d.bel.size (fun k e => by cases e; exact H7.out.d.lo.2.1)⟩
end Go.Proofs.YtgejmeankppmhaaDoor

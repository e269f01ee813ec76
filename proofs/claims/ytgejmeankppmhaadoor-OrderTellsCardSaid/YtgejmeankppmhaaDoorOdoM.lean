/- What an entry does to an image: the program's Do. -/
import Derived.Test.YtgejmeankppmhaaDoorIguM
import Derived.Test.YtgejmeankppmhaaDoorOmayM
import Derived.Test.YtgejmeankppmhaaDoorMmadeM
import Derived.Test.YtgejmeankppmhaaDoorRaddnM
import Derived.Deep.MidRow
namespace Go.Proofs.YtgejmeankppmhaaDoor
open Go.RowKit
open Bh (En ecell)
set_option maxRecDepth 20000

/-- What an entry does to an image, and why not. -/
def ido (i : Im) (e : En) : Im × Int :=
  if Hs i.L i.B e.ix = true then (i, 41)
  else if Room i.L e.ix then
    (if e.kd = 1 then (if (iput i e.fr e.ct e.da).2 = 0 then (⟨(mset i.L i.B e.ix).1, (mset i.L i.B e.ix).2, (iput i e.fr e.ct e.da).1.l, addT i.T e.cl e.rq⟩, 0) else (i, (iput i e.fr e.ct e.da).2))
     else (⟨(mset i.L i.B e.ix).1, (mset i.L i.B e.ix).2, i.l, i.T⟩, 0))
  else (i, 30)
/-- Three boxes: an image, an entry, and what comes of it. -/
structure D3 (w wr : World) (p2 p3 p4 : Nat) (i : Im) (e : En) (ty : TypeId) : Prop where
  r2 : wr.heap[p2]? = some (.cells (icells i).toArray ty (0, 0))
  r3 : wr.heap[p3]? = some (.cells e.cells 43 (0, 0))
  r4 : wr.heap[p4]? = some (.cells (icells I0).toArray ty (0, 0))
  bel : Below w.heap.size w wr
  lo : w.heap.size ≤ p2 ∧ w.heap.size ≤ p4 ∧ p2 ≠ p4 ∧ p3 ≠ p4
theorem D3.below {w wr w' : World} {p2 p3 p4 : Nat} {i : Im} {e : En} {ty : TypeId} (h : D3 w wr p2 p3 p4 i e ty) (hb : Below wr.heap.size wr w') : D3 w w' p2 p3 p4 i e ty :=
  ⟨row_below h.r2 hb, row_below h.r3 hb, row_below h.r4 hb, h.bel.trans (hb.mono h.bel.size), h.lo⟩
set_option maxHeartbeats 4000000 in
theorem do_there (i : Im) (e : En) (w : World) (hi : i.ok) (h : e.Reads w) (hs : Hs i.L i.B e.ix = true) :
    Calls Tryd.prog 9 #[imv i, .agg e.cells] w fun r w' => r = .returned (.tuple #[imv i, .int .i64 41]) ∧ Below w.heap.size w w' := by
  have HH := Lib.hid (fun W => has_any i.L i.B e.ix W hi.1 hi.2.1 h.ix)
  have hT8 := Lib.hid hi.2.2.1
  have h08 : I0.T.length = 8 := rfl
  rw [hs] at HH
  clear hi h hs
  obtain ⟨ix, tm, st, kd, cl, rq, fr, ct, da, A, bn, bc, ls⟩ := e
  unfold En.cells at *
  dsimp only at *
  go_enter Tryd.func9, Tryd.ntmps9
  go_wp2_with (first
    | (refine wpL_rbox (cs := icells i) (o := ⟨some 2, _, _, _, _, _⟩) rfl (.tmp 0) rfl rfl ?_; intro W0 p2 hN; obtain ⟨hb2, hr2, hl2, hz2⟩ := hN)
    | (refine imA.wpNew (o := ⟨some 4, _, _, _, _, _⟩) rfl rfl ?_; intro W p4 hN; obtain ⟨hb4, hr4, hl4, hz4⟩ := hN
       have hb3 : Below W0.heap.size W0 (W0.alloc (.cells #[.int .u64 (ix : Int), .int .u64 (tm : Int), .int .u64 (st : Int), .int .i64 kd, .int .u64 (cl : Int), .int .u64 (rq : Int), .int .u32 (fr : Int), .int .u32 (ct : Int), .string (str da), .slice A bn bc] 43)) := (Below.refl _ _).alloc (Nat.le_refl _) _
       have HD := Lib.hid (show D3 w W p2 W0.heap.size p4 i ⟨ix, tm, st, kd, cl, rq, fr, ct, da, A, bn, bc, ls⟩ 32 from ⟨row_below (row_below hr2.out hb3) hl4, row_below (heap_alloc_new W0 _) hl4, hr4.out, hl2.trans ((hb3.trans (hl4.mono (by simp))).mono hl2.size), by have := hb2.out; have := hz2.out; have := hb4.out; simp at this; omega⟩)
       obtain ⟨p3, hp3⟩ : ∃ p3, W0.heap.size = p3 := ⟨_, rfl⟩
       rw [hp3] at HD ⊢
       have c0 := icell0 HD.out.r2
       have c1 := icell1 HD.out.r2
       have e0 := ecell HD.out.r3 0
       unfold En.cells at e0
       dsimp only at e0
       clear hb2 hr2 hl2 hz2 hb3 hb4 hr4 hl4 hz4 hp3)
    | (go_at_call 20; refine (HH.out _).mono ?_; rintro e w1 ⟨rfl, hb1⟩
       have HD1 := Lib.hid (HD.out.below hb1)
       clear hb1 HD c0 c1 e0)
    | (refine imA.wpLoad (by rfl) (.tmp 2) rfl rfl HD1.out.r2 hT8.out ?_)
    | (refine imA.wpStore rfl (.tmp 4) (.tmp 14) rfl rfl rfl HD1.out.r4 h08 hT8.out ?_; intro W9 hr9 hg9 hz9)
    | fail)
  refine bodyPost_ret (results_cell_tmp rfl _ p4 32 _ (0, 0) _ rfl hr9.out imA.und rfl (by rw [imA.size]; simp [icells_19 hT8.out])) rfl ⟨rfl, HD1.out.bel.grown hg9 HD1.out.bel.size (fun k e => by cases e; exact HD1.out.lo.2.1)⟩
set_option maxHeartbeats 4000000 in
theorem do_room (i : Im) (e : En) (w : World) (hi : i.ok) (h : e.Reads w) (hs : Hs i.L i.B e.ix = false) (hg : Gd i.L i.B) (hr : ¬ Room i.L e.ix) :
    Calls Tryd.prog 9 #[imv i, .agg e.cells] w fun r w' => r = .returned (.tuple #[imv i, .int .i64 30]) ∧ Below w.heap.size w w' := by
  have HH := Lib.hid (fun W => has_any i.L i.B e.ix W hi.1 hi.2.1 h.ix)
  have hT8 := Lib.hid hi.2.2.1
  have h08 : I0.T.length = 8 := rfl
  rw [hs] at HH
  have HS := Lib.hid (fun W => set_no i.L i.B e.ix W hg.1 h.ix hr)
  clear hi h hs hg hr
  obtain ⟨ix, tm, st, kd, cl, rq, fr, ct, da, A, bn, bc, ls⟩ := e
  unfold En.cells at *
  dsimp only at *
  go_enter Tryd.func9, Tryd.ntmps9
  go_wp2_with (first
    | (refine wpL_rbox (cs := icells i) (o := ⟨some 2, _, _, _, _, _⟩) rfl (.tmp 0) rfl rfl ?_; intro W0 p2 hN; obtain ⟨hb2, hr2, hl2, hz2⟩ := hN)
    | (refine imA.wpNew (o := ⟨some 4, _, _, _, _, _⟩) rfl rfl ?_; intro W p4 hN; obtain ⟨hb4, hr4, hl4, hz4⟩ := hN
       have hb3 : Below W0.heap.size W0 (W0.alloc (.cells #[.int .u64 (ix : Int), .int .u64 (tm : Int), .int .u64 (st : Int), .int .i64 kd, .int .u64 (cl : Int), .int .u64 (rq : Int), .int .u32 (fr : Int), .int .u32 (ct : Int), .string (str da), .slice A bn bc] 43)) := (Below.refl _ _).alloc (Nat.le_refl _) _
       have HD := Lib.hid (show D3 w W p2 W0.heap.size p4 i ⟨ix, tm, st, kd, cl, rq, fr, ct, da, A, bn, bc, ls⟩ 32 from ⟨row_below (row_below hr2.out hb3) hl4, row_below (heap_alloc_new W0 _) hl4, hr4.out, hl2.trans ((hb3.trans (hl4.mono (by simp))).mono hl2.size), by have := hb2.out; have := hz2.out; have := hb4.out; simp at this; omega⟩)
       obtain ⟨p3, hp3⟩ : ∃ p3, W0.heap.size = p3 := ⟨_, rfl⟩
       rw [hp3] at HD ⊢
       have c0 := icell0 HD.out.r2
       have c1 := icell1 HD.out.r2
       have e0 := ecell HD.out.r3 0
       unfold En.cells at e0
       dsimp only at e0
       clear hb2 hr2 hl2 hz2 hb3 hb4 hr4 hl4 hz4 hp3)
    | (go_at_call 20; refine (HH.out _).mono ?_; rintro e w1 ⟨rfl, hb1⟩
       have HD1 := Lib.hid (HD.out.below hb1)
       clear hb1 HD c0 c1 e0
       have c0 := icell0 HD1.out.r2
       have c1 := icell1 HD1.out.r2
       have e0 := ecell HD1.out.r3 0
       unfold En.cells at e0
       dsimp only at e0)
    | (go_at_call 19; refine (HS.out _).mono ?_; rintro e w2 ⟨rfl, hb2⟩
       have HD2 := Lib.hid ((HD1.out.below hb2).below ((Below.refl w2.heap.size w2).alloc (Nat.le_refl _) (.cells #[.int .u64 (i.L : Int), .int .u64 (i.B : Int)] 25)))
       clear hb2 HD1 c0 c1 e0)
    | (refine imA.wpLoad (by rfl) (.tmp 2) rfl rfl HD2.out.r2 hT8.out ?_)
    | (refine imA.wpStore rfl (.tmp 4) (.tmp 25) rfl rfl rfl HD2.out.r4 h08 hT8.out ?_; intro W9 hr9 hg9 hz9)
    | fail)
  refine bodyPost_ret (results_cell_tmp rfl _ p4 32 _ (0, 0) _ rfl hr9.out imA.und rfl (by rw [imA.size]; simp [icells_19 hT8.out])) rfl ⟨rfl, HD2.out.bel.grown hg9 HD2.out.bel.size (fun k e => by cases e; exact HD2.out.lo.2.1)⟩
set_option maxHeartbeats 4000000 in
theorem rdo_there (i : Im) (e : En) (w : World) (hi : i.ok) (h : e.Reads w) (hs : Hs i.L i.B e.ix = true) :
    Calls Tryd.prog 10 #[imv i, .agg e.cells] w fun r w' => r = .returned (.tuple #[imv i, .int .i64 41]) ∧ Below w.heap.size w w' := by
  have HH := Lib.hid (fun W => rhas_any i.L i.B e.ix W hi.1 hi.2.1 h.ix)
  have hT8 := Lib.hid hi.2.2.1
  have h08 : I0.T.length = 8 := rfl
  rw [hs] at HH
  clear hi h hs
  obtain ⟨ix, tm, st, kd, cl, rq, fr, ct, da, A, bn, bc, ls⟩ := e
  unfold En.cells at *
  dsimp only at *
  go_enter Tryd.func10, Tryd.ntmps10
  go_wp2_with (first
    | (refine wpL_rbox (cs := icells i) (o := ⟨some 2, _, _, _, _, _⟩) rfl (.tmp 0) rfl rfl ?_; intro W0 p2 hN; obtain ⟨hb2, hr2, hl2, hz2⟩ := hN)
    | (refine imB.wpNew (o := ⟨some 4, _, _, _, _, _⟩) rfl rfl ?_; intro W p4 hN; obtain ⟨hb4, hr4, hl4, hz4⟩ := hN
       have hb3 : Below W0.heap.size W0 (W0.alloc (.cells #[.int .u64 (ix : Int), .int .u64 (tm : Int), .int .u64 (st : Int), .int .i64 kd, .int .u64 (cl : Int), .int .u64 (rq : Int), .int .u32 (fr : Int), .int .u32 (ct : Int), .string (str da), .slice A bn bc] 43)) := (Below.refl _ _).alloc (Nat.le_refl _) _
       have HD := Lib.hid (show D3 w W p2 W0.heap.size p4 i ⟨ix, tm, st, kd, cl, rq, fr, ct, da, A, bn, bc, ls⟩ 51 from ⟨row_below (row_below hr2.out hb3) hl4, row_below (heap_alloc_new W0 _) hl4, hr4.out, hl2.trans ((hb3.trans (hl4.mono (by simp))).mono hl2.size), by have := hb2.out; have := hz2.out; have := hb4.out; simp at this; omega⟩)
       obtain ⟨p3, hp3⟩ : ∃ p3, W0.heap.size = p3 := ⟨_, rfl⟩
       rw [hp3] at HD ⊢
       have c0 := icell0 HD.out.r2
       have c1 := icell1 HD.out.r2
       have e0 := ecell HD.out.r3 0
       unfold En.cells at e0
       dsimp only at e0
       clear hb2 hr2 hl2 hz2 hb3 hb4 hr4 hl4 hz4 hp3)
    | (go_at_call 28; refine (HH.out _).mono ?_; rintro e w1 ⟨rfl, hb1⟩
       have HD1 := Lib.hid (HD.out.below hb1)
       clear hb1 HD c0 c1 e0)
    | (refine imB.wpLoad (by rfl) (.tmp 2) rfl rfl HD1.out.r2 hT8.out ?_)
    | (refine imB.wpStore rfl (.tmp 4) (.tmp 15) rfl rfl rfl HD1.out.r4 h08 hT8.out ?_; intro W9 hr9 hg9 hz9)
    | fail)
  refine bodyPost_ret (results_cell_tmp rfl _ p4 51 _ (0, 0) _ rfl hr9.out imB.und rfl (by rw [imB.size]; simp [icells_19 hT8.out])) rfl ⟨rfl, HD1.out.bel.grown hg9 HD1.out.bel.size (fun k e => by cases e; exact HD1.out.lo.2.1)⟩
set_option maxHeartbeats 4000000 in
theorem rdo_room (i : Im) (e : En) (w : World) (hi : i.ok) (h : e.Reads w) (hs : Hs i.L i.B e.ix = false) (hg : Gd i.L i.B) (hr : ¬ Room i.L e.ix) :
    Calls Tryd.prog 10 #[imv i, .agg e.cells] w fun r w' => r = .returned (.tuple #[imv i, .int .i64 30]) ∧ Below w.heap.size w w' := by
  have HH := Lib.hid (fun W => rhas_any i.L i.B e.ix W hi.1 hi.2.1 h.ix)
  have hT8 := Lib.hid hi.2.2.1
  have h08 : I0.T.length = 8 := rfl
  rw [hs] at HH
  have HS := Lib.hid (fun W => rset_no i.L i.B e.ix W hg.1 h.ix hr)
  clear hi h hs hg hr
  obtain ⟨ix, tm, st, kd, cl, rq, fr, ct, da, A, bn, bc, ls⟩ := e
  unfold En.cells at *
  dsimp only at *
  go_enter Tryd.func10, Tryd.ntmps10
  go_wp2_with (first
    | (refine wpL_rbox (cs := icells i) (o := ⟨some 2, _, _, _, _, _⟩) rfl (.tmp 0) rfl rfl ?_; intro W0 p2 hN; obtain ⟨hb2, hr2, hl2, hz2⟩ := hN)
    | (refine imB.wpNew (o := ⟨some 4, _, _, _, _, _⟩) rfl rfl ?_; intro W p4 hN; obtain ⟨hb4, hr4, hl4, hz4⟩ := hN
       have hb3 : Below W0.heap.size W0 (W0.alloc (.cells #[.int .u64 (ix : Int), .int .u64 (tm : Int), .int .u64 (st : Int), .int .i64 kd, .int .u64 (cl : Int), .int .u64 (rq : Int), .int .u32 (fr : Int), .int .u32 (ct : Int), .string (str da), .slice A bn bc] 43)) := (Below.refl _ _).alloc (Nat.le_refl _) _
       have HD := Lib.hid (show D3 w W p2 W0.heap.size p4 i ⟨ix, tm, st, kd, cl, rq, fr, ct, da, A, bn, bc, ls⟩ 51 from ⟨row_below (row_below hr2.out hb3) hl4, row_below (heap_alloc_new W0 _) hl4, hr4.out, hl2.trans ((hb3.trans (hl4.mono (by simp))).mono hl2.size), by have := hb2.out; have := hz2.out; have := hb4.out; simp at this; omega⟩)
       obtain ⟨p3, hp3⟩ : ∃ p3, W0.heap.size = p3 := ⟨_, rfl⟩
       rw [hp3] at HD ⊢
       have c0 := icell0 HD.out.r2
       have c1 := icell1 HD.out.r2
       have e0 := ecell HD.out.r3 0
       unfold En.cells at e0
       dsimp only at e0
       clear hb2 hr2 hl2 hz2 hb3 hb4 hr4 hl4 hz4 hp3)
    | (go_at_call 28; refine (HH.out _).mono ?_; rintro e w1 ⟨rfl, hb1⟩
       have HD1 := Lib.hid (HD.out.below hb1)
       clear hb1 HD c0 c1 e0
       have c0 := icell0 HD1.out.r2
       have c1 := icell1 HD1.out.r2
       have e0 := ecell HD1.out.r3 0
       unfold En.cells at e0
       dsimp only at e0)
    | (go_at_call 29; refine (HS.out _).mono ?_; rintro e w2 ⟨rfl, hb2⟩
       have HD2 := Lib.hid ((HD1.out.below hb2).below ((Below.refl w2.heap.size w2).alloc (Nat.le_refl _) (.cells #[.int .u64 (i.L : Int), .int .u64 (i.B : Int)] 37)))
       clear hb2 HD1 c0 c1 e0)
    | (refine imB.wpLoad (by rfl) (.tmp 2) rfl rfl HD2.out.r2 hT8.out ?_)
    | (refine imB.wpStore rfl (.tmp 4) (.tmp 26) rfl rfl rfl HD2.out.r4 h08 hT8.out ?_; intro W9 hr9 hg9 hz9)
    | fail)
  refine bodyPost_ret (results_cell_tmp rfl _ p4 51 _ (0, 0) _ rfl hr9.out imB.und rfl (by rw [imB.size]; simp [icells_19 hT8.out])) rfl ⟨rfl, HD2.out.bel.grown hg9 HD2.out.bel.size (fun k e => by cases e; exact HD2.out.lo.2.1)⟩
end Go.Proofs.YtgejmeankppmhaaDoor

/- BehindMakes: what an entry behind any others looks behind at is the document's; made so, it tells of each of the last ones. -/
import Derived.Test.YtdaniaijlkflcaaMake
import Derived.Test.YtdaniaijlkflcaaEntsd
import Derived.Deep.DeepCutAuto
import Derived.Deep.CutBlock
namespace Go.Proofs.Ytdaniaijlkflcaa
open Go.RowKit

/-- The entry that looks behind at some. -/
def mine (n : Nat) (A : Option Addr) (k c : Nat) (es : List En) : En := ⟨n + 1, 0, 0, 0, 0, 0, 0, 0, [], A, k, c, mades es k⟩
theorem mine_reads {w : World} {n k c : Nat} {A : Option Addr} {es : List En} (hr : Rd w w.heap.size 4 A k c (lks (mades es k))) (hk : k ≤ es.length) (hn : n ≤ 200) (h : ∀ e ∈ es, e.look.Ok) : (mine n A k c es).Reads w := by
  refine ⟨show n + 1 < _ by omega, show 0 < _ by decide, show 0 < _ by decide, show (Lit.int .i64 0).wf = true by decide, ⟨show 0 < _ by decide, show 0 < _ by decide, show 0 < _ by decide, show 0 < _ by decide⟩, show ([] : List UInt8).length ≤ maxLen from Nat.zero_le _, hr, mades_len es k hk, fun l hl => ?_⟩
  unfold mine mades at hl
  obtain ⟨e, he, rfl⟩ := List.mem_map.1 hl
  exact h e (List.mem_reverse.1 (List.mem_of_mem_take he))
theorem mine_tells (n k c : Nat) (A : Option Addr) (es : List En) (hl : es.length = n) (i : Nat) (hi : i < k) (hk : k ≤ n) (q : En) (hq : es[n - 1 - i]? = some q) (x : En) (hx : x.look = q.look) (hix : x.ix = n - i) : (mine n A k c es).tells x = true := by
  unfold En.tells
  rw [hx, hix]
  apply decide_eq_true
  unfold En.at mine
  dsimp only
  rw [if_pos (by omega), show n + 1 - 1 - (n - i) = i by omega]
  exact mades_get es k i q (by omega) hi (by rw [hl]; exact hq)
theorem mine_first (n k c : Nat) (A : Option Addr) (es : List En) (hk : k ≤ n) : (mine n A k c es).first = n + 1 - k := by
  unfold En.first mine
  dsimp only
  omega

set_option maxHeartbeats 8000000 in
set_option maxRecDepth 8000 in
theorem behindMakes_walk {w : World} {A : Option Addr} {n c : Nat} {es : List En} (h : Ents w A n c es) (m : Int) (hm : (Lit.int .i64 m).wf = true) :
    Calls Try.prog 4 #[.slice A n c, .int .i64 m] w fun r w' => r = .returned (.bool true) ∧ Below w.heap.size w w' := by
  have HH := Lib.hid h
  have hncm : (n : Int) ≤ 9223372036854775807 := by have a := h.rd.1; have b := h.rd.2.1; unfold maxLen at b; omega
  clear h
  go_enter Try.func4, Try.ntmps4
  go_upto_region 5 with (first
    | (go_at_call 6; refine (light10 HH.out).mono ?_; rintro e w1 ⟨b1, rfl, hf1, hb1⟩
       have HB1 := Lib.hid hb1
       have HF1 := Lib.hid hf1
       clear hb1 hf1
       cases b1)
    | (go_at_call 7; refine (lives10 _).mono ?_; rintro e w9 ⟨rfl, hb9⟩)
    | (go_at_call 16; refine (make_any (HH.out.below HB1.out) (by have := (HF1.out trivial).1; have := HH.out.len; omega) m).mono ?_; rintro e w2 ⟨v2, rfl, hown2, hb2⟩
       have HB2 := Lib.hid (HB1.out.trans (hb2.mono HB1.out.size))
       have HO2 := Lib.hid hown2
       clear hb2 hown2)
    | (go_at_call 17; refine (rmake_any (HH.out.below HB2.out) (by have := (HF1.out trivial).1; have := HH.out.len; omega) m).mono ?_; rintro e w3 ⟨v3, rfl, hown3, hb3⟩
       have HB3 := Lib.hid (HB2.out.trans (hb3.mono HB2.out.size))
       have HO3 := Lib.hid hown3
       have HO2' := Lib.hid (owns_below HO2.out hb3)
       clear hb3 hown3)
    | fail)
  · go_ret
    exact ⟨rfl, HB1.out.trans (hb9.mono HB1.out.size)⟩
  have hn200 : n ≤ 200 := by have := (HF1.out trivial).1; have := HH.out.len; omega
  obtain ⟨K, hK⟩ : ∃ K, K = mk m n := ⟨_, rfl⟩
  have hKn : K ≤ n := by rw [hK]; unfold mk; omega
  have ho2 := HO2'.out
  have ho3 := HO3.out
  rw [← hK] at ho2 ho3
  obtain ⟨A2, c2, rfl⟩ := ownsRow_form ho2
  obtain ⟨A3, c3, rfl⟩ := ownsRow_form ho3
  have hr2 := ownsRow_rd ho2
  have hr3 := ownsRow_rd ho3
  have hco : ∀ e ∈ es, e.look.Ok := fun e he => (HH.out.reads e he).look
  obtain ⟨Y, hY, hYs, ry, hYb⟩ := row1 w3 (mine n A2 K c2 es).cells 28
  have hyb := HB3.out.trans (hYb.mono HB3.out.size)
  have hr2y := (hr2.below hYb).more hYb.size
  have hr3y := (hr3.below hYb).more hYb.size
  have hmr := mine_reads hr2y (by have := HH.out.len; omega) hn200 hco
  have hfi := first_any (mine n A2 K c2 es)
  rw [mine_first n K c2 A2 es hKn] at hfi
  have hm2 := hr2.2.1
  have hm3 := hr3.2.1
  have hl2 := hr2.1
  have hl3 := hr3.1
  unfold maxLen at hm2 hm3
  have HR2 := Lib.hid hr2y
  have HR3 := Lib.hid hr3y
  have HMR := Lib.hid hmr
  have HFI := Lib.hid (fun W (hb : Below Y.heap.size Y W) => hfi W (hmr.below hb).ix (Nat.le_trans (hmr.below hb).rd.1 (hmr.below hb).rd.2.1))
  have HYB := Lib.hid hyb
  have HYS := Lib.hid hYs
  have hkk : ((K : Int) != (K : Int)) = false := bne_self_eq_false _
  have hce : (mine n A2 K c2 es).cells = #[.int .u64 ((n : Int) + 1), .int .u64 0, .int .u64 0, .int .i64 0, .int .u64 0, .int .u64 0, .int .u32 0, .int .u32 0, .string { data := #[] }, .slice A2 K c2] := by
    unfold mine En.cells
    dsimp only
    rw [show ((n + 1 : Nat) : Int) = (n : Int) + 1 from by omega]
    rfl
  rw [hce] at hY ry
  have hni : (n : Int) ≤ 200 := by omega
  clear hr2 hr3 ho2 ho3 hK hr2y hr3y hmr hfi hyb hYs hYb hco HO2 HO2' HO3
  go_wp2
  rw [← hY]
  go_loopw [8, 9, 33] (fun _ _ ir wr => ∃ (i : Nat), i ≤ K ∧ ir = .int .i64 (i : Int) ∧ Below Y.heap.size Y wr) (fun _ _ ir _ => K - (intOf ir).toNat)
  case atStart => exact ⟨0, Nat.zero_le _, rfl, Below.refl _ _⟩
  case round =>
    obtain ⟨i, hi, rfl, hb⟩ := hrel
    have HB := Lib.hid hb
    clear hb
    have yc := fun j u (hu : _) => cellz (j := j) (u := u) HB.out ry hu (by have := HYS.out; omega)
    have y0 := yc 0 _ rfl
    have y1 := yc 1 _ rfl
    have y2 := yc 2 _ rfl
    have y3 := yc 3 _ rfl
    have y4 := yc 4 _ rfl
    have y5 := yc 5 _ rfl
    have y6 := yc 6 _ rfl
    have y7 := yc 7 _ rfl
    have y8 := yc 8 _ rfl
    have y9 := yc 9 _ rfl
    clear yc
    by_cases hlt : i < K
    · obtain ⟨p, hp⟩ : ∃ p : Nat, (n : Int) - 1 - (i : Int) = (p : Int) := ⟨n - 1 - i, by omega⟩
      obtain ⟨t, ht⟩ : ∃ t : Nat, (n : Int) - (i : Int) = (t : Int) := ⟨n - i, by omega⟩
      have hpn : (p : Int) < (n : Int) := by omega
      have hpn' : p < n := by omega
      have hn1 : 1 ≤ (n : Int) := by omega
      have hik : (i : Int) < (K : Int) := by omega
      have hi200 : (i : Int) ≤ 200 := by omega
      have ht200 : (t : Int) ≤ 200 := by omega
      have hbw := HYB.out.trans (HB.out.mono HYB.out.size)
      obtain ⟨u, hu⟩ : ∃ u, es[p]? = some u := ⟨_, List.getElem?_eq_getElem (by have := HH.out.len; omega)⟩
      have hru := (HH.out.reads u (List.mem_of_getElem? hu)).below hbw
      obtain ⟨b, o, rfl, hbb, hcc⟩ := HH.out.rd.2.2.2 (by omega)
      obtain ⟨b2, o2, rfl, hbb2, hcc2⟩ := HR2.out.2.2.2 (by omega)
      obtain ⟨b3, o3, rfl, hbb3, hcc3⟩ := HR3.out.2.2.2 (by omega)
      have hc := fun j v (hj : u.cells[j]? = some v) => (hbw.cell (p := ⟨b, o + (p * 10 + j), none⟩) hbb).trans (hcc _ _ (ens_get es p _ hu j v hj))
      have hmg := mades_get es K i u (by have := HH.out.len; omega) hlt (by rw [← hu]; congr 1; have := HH.out.len; omega)
      have hc2 := fun j v (hj : u.look.cells[j]? = some v) => hcc2 _ _ (lks_get _ i _ hmg j v hj)
      have hc3 := fun j v (hj : u.look.cells[j]? = some v) => hcc3 _ _ (lks_get _ i _ hmg j v hj)
      have htl := fun (x : En) (hx : x.look = u.look) (hix : x.ix = n - i) => mine_tells n K c2 (some ⟨b2, o2, none⟩) es (by have := HH.out.len; omega) i hlt hKn u (by rw [← hu]; congr 1; omega) x hx hix
      obtain ⟨ix, tm, st, kd, cl, rq, fr, ct, da, A1, bn, bc, ls⟩ := u
      have hrx : (⟨t, tm, st, kd, cl, rq, fr, ct, da, A1, bn, bc, ls⟩ : En).Reads wr := ⟨show t < _ by omega, hru.tm, hru.st, hru.kd, hru.look, hru.da, hru.rd, hru.len, hru.oks⟩
      have htl := htl ⟨t, tm, st, kd, cl, rq, fr, ct, da, A1, bn, bc, ls⟩ rfl (show t = n - i by omega)
      have hTL := fun W (hb' : Below Y.heap.size Y W) (hb'' : Below wr.heap.size wr W) => tells_any _ _ W (HMR.out.below hb') (hrx.below hb'')
      rw [htl, hce] at hTL
      have hLK := fun W => look_any ⟨t, tm, st, kd, cl, rq, fr, ct, da, A1, bn, bc, ls⟩ W
      have k0 := hc 0 _ rfl
      have k1 := hc 1 _ rfl
      have k2 := hc 2 _ rfl
      have k3 := hc 3 _ rfl
      have k4 := hc 4 _ rfl
      have k5 := hc 5 _ rfl
      have k6 := hc 6 _ rfl
      have k7 := hc 7 _ rfl
      have k8 := hc 8 _ rfl
      have k9 := hc 9 _ rfl
      have n0 := hc2 0 _ rfl
      have n1 := hc2 1 _ rfl
      have n2 := hc2 2 _ rfl
      have n3 := hc2 3 _ rfl
      have r0 := hc3 0 _ rfl
      have r1 := hc3 1 _ rfl
      have r2 := hc3 2 _ rfl
      have r3 := hc3 3 _ rfl
      have HTL := Lib.hid hTL
      have HLK := Lib.hid hLK
      unfold En.cells En.look Lk.val at *
      dsimp only at *
      simp only [← Nat.add_assoc, Nat.add_zero] at k0 k1 k2 k3 k4 k5 k6 k7 k8 k9 n0 n1 n2 n3 r0 r1 r2 r3
      have HLT := Lib.hid hlt
      clear hc hcc hc2 hc3 hcc2 hcc3 hmg htl hTL hLK hrx hru hu hlt hbw
      go_wp2
      obtain ⟨X, hX, hXs, rx, hXb⟩ := row1 wr #[.int .u64 (t : Int), .int .u64 (tm : Int), .int .u64 (st : Int), .int .i64 kd, .int .u64 (cl : Int), .int .u64 (rq : Int), .int .u32 (fr : Int), .int .u32 (ct : Int), .string (str da), .slice A1 bn bc] 28
      rw [← hX]
      have hyl : Y.heap.size ≤ X.heap.size := by have := HB.out.size; omega
      have hyx := HB.out.trans (hXb.mono HB.out.size)
      have ry' := (hyx.block _ (by have := HYS.out; omega)).trans ry
      have HL3 := Lib.hid (show w3.heap.size < X.heap.size by have := HYS.out; omega)
      have HLX := Lib.hid (show wr.heap.size < X.heap.size by omega)
      have HB2 := Lib.hid (show b2 < X.heap.size by omega)
      have HB3 := Lib.hid (show b3 < X.heap.size by omega)
      have HYX := Lib.hid hyx
      have HXB := Lib.hid hXb
      have xn0 := (hyx.cell (p := ⟨b2, o2 + i * 4, none⟩) hbb2).trans n0
      have xn1 := (hyx.cell (p := ⟨b2, o2 + i * 4 + 1, none⟩) hbb2).trans n1
      have xn2 := (hyx.cell (p := ⟨b2, o2 + i * 4 + 2, none⟩) hbb2).trans n2
      have xn3 := (hyx.cell (p := ⟨b2, o2 + i * 4 + 3, none⟩) hbb2).trans n3
      have xr0 := (hyx.cell (p := ⟨b3, o3 + i * 4, none⟩) hbb3).trans r0
      have xr1 := (hyx.cell (p := ⟨b3, o3 + i * 4 + 1, none⟩) hbb3).trans r1
      have xr2 := (hyx.cell (p := ⟨b3, o3 + i * 4 + 2, none⟩) hbb3).trans r2
      have xr3 := (hyx.cell (p := ⟨b3, o3 + i * 4 + 3, none⟩) hbb3).trans r3
      clear hX hXb hXs hyx k0 k1 k2 k3 k4 k5 k6 k7 k8 k9 n0 n1 n2 n3 r0 r1 r2 r3 y0 y1 y2 y3 y4 y5 y6 y7 y8 y9
      refine wp_low X.heap.size [([0, 1, 2, 3, 4, 5, 6, 7, 8, 9, 10, 11], 12), ([13, 14, 15, 16, 17, 18, 19, 20], 21)] [22, 23] (by kernel_rfl) (by kernel_rfl) (fun d _ _ _ _ h => by cases d <;> exact h) (Nat.le_refl _) fun wd hbd => ?_
      intro q hq
      have d0 := fun z => cellz (j := 0) (u := .int .u64 ((n : Int) + 1)) (hq z) ry' rfl HL3.out
      have d1 := fun z => cellz (j := 1) (u := .int .u64 0) (hq z) ry' rfl HL3.out
      have d2 := fun z => cellz (j := 2) (u := .int .u64 0) (hq z) ry' rfl HL3.out
      have d3 := fun z => cellz (j := 3) (u := .int .i64 0) (hq z) ry' rfl HL3.out
      have d4 := fun z => cellz (j := 4) (u := .int .u64 0) (hq z) ry' rfl HL3.out
      have d5 := fun z => cellz (j := 5) (u := .int .u64 0) (hq z) ry' rfl HL3.out
      have d6 := fun z => cellz (j := 6) (u := .int .u32 0) (hq z) ry' rfl HL3.out
      have d7 := fun z => cellz (j := 7) (u := .int .u32 0) (hq z) ry' rfl HL3.out
      have d8 := fun z => cellz (j := 8) (u := .string { data := #[] }) (hq z) ry' rfl HL3.out
      have d9 := fun z => cellz (j := 9) (u := .slice (some ⟨b2, o2, none⟩) K c2) (hq z) ry' rfl HL3.out
      have f0 := fun z => cellz (j := 0) (u := .int .u64 (t : Int)) (hq z) rx rfl HLX.out
      have f1 := fun z => cellz (j := 1) (u := .int .u64 (tm : Int)) (hq z) rx rfl HLX.out
      have f2 := fun z => cellz (j := 2) (u := .int .u64 (st : Int)) (hq z) rx rfl HLX.out
      have f3 := fun z => cellz (j := 3) (u := .int .i64 kd) (hq z) rx rfl HLX.out
      have f4 := fun z => cellz (j := 4) (u := .int .u64 (cl : Int)) (hq z) rx rfl HLX.out
      have f5 := fun z => cellz (j := 5) (u := .int .u64 (rq : Int)) (hq z) rx rfl HLX.out
      have f6 := fun z => cellz (j := 6) (u := .int .u32 (fr : Int)) (hq z) rx rfl HLX.out
      have f7 := fun z => cellz (j := 7) (u := .int .u32 (ct : Int)) (hq z) rx rfl HLX.out
      have f8 := fun z => cellz (j := 8) (u := .string (str da)) (hq z) rx rfl HLX.out
      have f9 := fun z => cellz (j := 9) (u := .slice A1 bn bc) (hq z) rx rfl HLX.out
      have g0 := fun z => ((hq z).cell (p := ⟨b2, _, none⟩) HB2.out).trans xn0
      have g1 := fun z => ((hq z).cell (p := ⟨b2, _, none⟩) HB2.out).trans xn1
      have g2 := fun z => ((hq z).cell (p := ⟨b2, _, none⟩) HB2.out).trans xn2
      have g3 := fun z => ((hq z).cell (p := ⟨b2, _, none⟩) HB2.out).trans xn3
      have h0 := fun z => ((hq z).cell (p := ⟨b3, _, none⟩) HB3.out).trans xr0
      have h1 := fun z => ((hq z).cell (p := ⟨b3, _, none⟩) HB3.out).trans xr1
      have h2 := fun z => ((hq z).cell (p := ⟨b3, _, none⟩) HB3.out).trans xr2
      have h3 := fun z => ((hq z).cell (p := ⟨b3, _, none⟩) HB3.out).trans xr3
      simp only [pickI, Option.toList_some, List.cons_append, List.nil_append, List.getElem?_toArray, List.getElem?_cons_succ, List.getElem?_cons_zero]
      repeat (go_big_quiet_step (fail))
      refine wpQuiet_nil ?_
      clear d0 d1 d2 d3 d4 d5 d6 d7 d8 d9 f0 f1 f2 f3 f4 f5 f6 f7 f8 f9 g0 g1 g2 g3 h0 h1 h2 h3 hq q
      refine seg_op (by simp only [List.getElem?_toArray, List.getElem?_cons_succ, List.getElem?_cons_zero]; rfl) fun K hK => ?_
      go_simp
      refine (HTL.out _ (HYX.out.trans (hbd.mono HYX.out.size)) (HXB.out.trans (hbd.mono HXB.out.size))).mono ?_
      rintro e v0 ⟨rfl, bv0⟩
      have zv0 := hbd.trans (bv0.mono hbd.size)
      refine hK.out _ _ (seg_keep zv0 ?_)
      clear hK K
      intro q hq
      have d0 := fun z => cellz (j := 0) (u := .int .u64 ((n : Int) + 1)) (hq z) ry' rfl HL3.out
      have d1 := fun z => cellz (j := 1) (u := .int .u64 0) (hq z) ry' rfl HL3.out
      have d2 := fun z => cellz (j := 2) (u := .int .u64 0) (hq z) ry' rfl HL3.out
      have d3 := fun z => cellz (j := 3) (u := .int .i64 0) (hq z) ry' rfl HL3.out
      have d4 := fun z => cellz (j := 4) (u := .int .u64 0) (hq z) ry' rfl HL3.out
      have d5 := fun z => cellz (j := 5) (u := .int .u64 0) (hq z) ry' rfl HL3.out
      have d6 := fun z => cellz (j := 6) (u := .int .u32 0) (hq z) ry' rfl HL3.out
      have d7 := fun z => cellz (j := 7) (u := .int .u32 0) (hq z) ry' rfl HL3.out
      have d8 := fun z => cellz (j := 8) (u := .string { data := #[] }) (hq z) ry' rfl HL3.out
      have d9 := fun z => cellz (j := 9) (u := .slice (some ⟨b2, o2, none⟩) K c2) (hq z) ry' rfl HL3.out
      have f0 := fun z => cellz (j := 0) (u := .int .u64 (t : Int)) (hq z) rx rfl HLX.out
      have f1 := fun z => cellz (j := 1) (u := .int .u64 (tm : Int)) (hq z) rx rfl HLX.out
      have f2 := fun z => cellz (j := 2) (u := .int .u64 (st : Int)) (hq z) rx rfl HLX.out
      have f3 := fun z => cellz (j := 3) (u := .int .i64 kd) (hq z) rx rfl HLX.out
      have f4 := fun z => cellz (j := 4) (u := .int .u64 (cl : Int)) (hq z) rx rfl HLX.out
      have f5 := fun z => cellz (j := 5) (u := .int .u64 (rq : Int)) (hq z) rx rfl HLX.out
      have f6 := fun z => cellz (j := 6) (u := .int .u32 (fr : Int)) (hq z) rx rfl HLX.out
      have f7 := fun z => cellz (j := 7) (u := .int .u32 (ct : Int)) (hq z) rx rfl HLX.out
      have f8 := fun z => cellz (j := 8) (u := .string (str da)) (hq z) rx rfl HLX.out
      have f9 := fun z => cellz (j := 9) (u := .slice A1 bn bc) (hq z) rx rfl HLX.out
      have g0 := fun z => ((hq z).cell (p := ⟨b2, _, none⟩) HB2.out).trans xn0
      have g1 := fun z => ((hq z).cell (p := ⟨b2, _, none⟩) HB2.out).trans xn1
      have g2 := fun z => ((hq z).cell (p := ⟨b2, _, none⟩) HB2.out).trans xn2
      have g3 := fun z => ((hq z).cell (p := ⟨b2, _, none⟩) HB2.out).trans xn3
      have h0 := fun z => ((hq z).cell (p := ⟨b3, _, none⟩) HB3.out).trans xr0
      have h1 := fun z => ((hq z).cell (p := ⟨b3, _, none⟩) HB3.out).trans xr1
      have h2 := fun z => ((hq z).cell (p := ⟨b3, _, none⟩) HB3.out).trans xr2
      have h3 := fun z => ((hq z).cell (p := ⟨b3, _, none⟩) HB3.out).trans xr3
      simp only [pickI, Option.toList_some, List.cons_append, List.nil_append, List.getElem?_toArray, List.getElem?_cons_succ, List.getElem?_cons_zero]
      repeat (go_big_quiet_step (fail))
      refine wpQuiet_nil ?_
      clear d0 d1 d2 d3 d4 d5 d6 d7 d8 d9 f0 f1 f2 f3 f4 f5 f6 f7 f8 f9 g0 g1 g2 g3 h0 h1 h2 h3 hq q
      refine seg_op (by simp only [List.getElem?_toArray, List.getElem?_cons_succ, List.getElem?_cons_zero]; rfl) fun K hK => ?_
      go_simp
      refine (HLK.out _).mono ?_
      rintro e v1 ⟨rfl, bv1⟩
      have zv1 := zv0.trans (bv1.mono zv0.size)
      refine hK.out _ _ (seg_keep zv1 ?_)
      clear hK K
      intro q hq
      have d0 := fun z => cellz (j := 0) (u := .int .u64 ((n : Int) + 1)) (hq z) ry' rfl HL3.out
      have d1 := fun z => cellz (j := 1) (u := .int .u64 0) (hq z) ry' rfl HL3.out
      have d2 := fun z => cellz (j := 2) (u := .int .u64 0) (hq z) ry' rfl HL3.out
      have d3 := fun z => cellz (j := 3) (u := .int .i64 0) (hq z) ry' rfl HL3.out
      have d4 := fun z => cellz (j := 4) (u := .int .u64 0) (hq z) ry' rfl HL3.out
      have d5 := fun z => cellz (j := 5) (u := .int .u64 0) (hq z) ry' rfl HL3.out
      have d6 := fun z => cellz (j := 6) (u := .int .u32 0) (hq z) ry' rfl HL3.out
      have d7 := fun z => cellz (j := 7) (u := .int .u32 0) (hq z) ry' rfl HL3.out
      have d8 := fun z => cellz (j := 8) (u := .string { data := #[] }) (hq z) ry' rfl HL3.out
      have d9 := fun z => cellz (j := 9) (u := .slice (some ⟨b2, o2, none⟩) K c2) (hq z) ry' rfl HL3.out
      have f0 := fun z => cellz (j := 0) (u := .int .u64 (t : Int)) (hq z) rx rfl HLX.out
      have f1 := fun z => cellz (j := 1) (u := .int .u64 (tm : Int)) (hq z) rx rfl HLX.out
      have f2 := fun z => cellz (j := 2) (u := .int .u64 (st : Int)) (hq z) rx rfl HLX.out
      have f3 := fun z => cellz (j := 3) (u := .int .i64 kd) (hq z) rx rfl HLX.out
      have f4 := fun z => cellz (j := 4) (u := .int .u64 (cl : Int)) (hq z) rx rfl HLX.out
      have f5 := fun z => cellz (j := 5) (u := .int .u64 (rq : Int)) (hq z) rx rfl HLX.out
      have f6 := fun z => cellz (j := 6) (u := .int .u32 (fr : Int)) (hq z) rx rfl HLX.out
      have f7 := fun z => cellz (j := 7) (u := .int .u32 (ct : Int)) (hq z) rx rfl HLX.out
      have f8 := fun z => cellz (j := 8) (u := .string (str da)) (hq z) rx rfl HLX.out
      have f9 := fun z => cellz (j := 9) (u := .slice A1 bn bc) (hq z) rx rfl HLX.out
      have g0 := fun z => ((hq z).cell (p := ⟨b2, _, none⟩) HB2.out).trans xn0
      have g1 := fun z => ((hq z).cell (p := ⟨b2, _, none⟩) HB2.out).trans xn1
      have g2 := fun z => ((hq z).cell (p := ⟨b2, _, none⟩) HB2.out).trans xn2
      have g3 := fun z => ((hq z).cell (p := ⟨b2, _, none⟩) HB2.out).trans xn3
      have h0 := fun z => ((hq z).cell (p := ⟨b3, _, none⟩) HB3.out).trans xr0
      have h1 := fun z => ((hq z).cell (p := ⟨b3, _, none⟩) HB3.out).trans xr1
      have h2 := fun z => ((hq z).cell (p := ⟨b3, _, none⟩) HB3.out).trans xr2
      have h3 := fun z => ((hq z).cell (p := ⟨b3, _, none⟩) HB3.out).trans xr3
      simp only [pickI, Option.toList_some, List.cons_append, List.nil_append, List.getElem?_toArray, List.getElem?_cons_succ, List.getElem?_cons_zero]
      repeat (go_big_quiet_step (fail))
      refine wpQuiet_nil ?_
      clear d0 d1 d2 d3 d4 d5 d6 d7 d8 d9 f0 f1 f2 f3 f4 f5 f6 f7 f8 f9 g0 g1 g2 g3 h0 h1 h2 h3 hq q
      have HFIN := Lib.hid (HYX.out.trans (zv1.mono HYX.out.size))
      go_wp2
      go_roundw
      case rel => exact ⟨i + 1, by have := HLT.out; omega, by go_num, HFIN.out⟩
      case measure => have := HLT.out; simp [intOf]; omega
    · obtain rfl : i = K := by omega
      obtain ⟨s, hs⟩ : ∃ s : Nat, (n : Int) - (i : Int) = (s : Int) := ⟨n - i, by omega⟩
      have hsl : (s : Int) ≤ 200 := by omega
      have hsn : (n + 1 - i : Nat) = s + 1 := by omega
      have hfi := HFI.out
      rw [hsn, hce, show ((s + 1 : Nat) : Int) = (s : Int) + 1 from by omega] at hfi
      have HFI' := Lib.hid hfi
      clear hfi hsn hlt
      go_wp2_with (first
        | (go_at_call 19; refine (HFI'.out _ HB.out).mono ?_; rintro e w5 ⟨rfl, hb5⟩
           have HB5 := Lib.hid (HYB.out.trans ((HB.out.trans (hb5.mono HB.out.size)).mono HYB.out.size)))
        | (go_at_call 7; refine (lives10 _).mono ?_; rintro e w9 ⟨rfl, hb9⟩)
        | fail)
      go_ret
      exact ⟨rfl, HB5.out.trans (hb9.mono HB5.out.size)⟩
namespace behindMakes
open Go.ChangeShapes Go.WideShapes Go.ChangeAt
set_option maxRecDepth 100000 in
theorem lifted (os : Os) (started : os.Started) (H : Type) (enc : TypeId × Value → H) :
    ReturnsInHanded {} Try.checked os 4 .any (Rows.behindMakesSpec.pre6 enc Try.prog Try.f4 Rows.behindMakesRow.domain false) (Rows.behindMakesSpec.post enc Try.prog Try.f4 false true false false) := by
  refine returnsInHanded_of_change (C := Try.checked) own started (by kernel_rfl) Try.func4
    (ChangeSpec.witness6 (enc := enc) (C := Try.checked) false ⟨#[], #[.slice none 0 0, .int .i64 0], []⟩ 8 (by kernel_rfl) (by kernel_rfl) (by kernel_rfl) (by kernel_rfl)) ?_
  intro W base args ds gs before hval0 hW _ _
  have hval : ∀ (j : Nat) t v, Try.f4.params[j]? = some t → args[j]? = some v → Value.okWide Try.prog W .any base t v := hval0
  have hW' := hW
  obtain ⟨p, q, hA0, hV, rfl, hfz, hnd⟩ := hW
  have hA : DataW.TrodAll enc Try.prog W 0 (fun _ => true) true Try.f4.params.toList args.toList ds p := hA0
  rw [Try.params4] at hA hval
  obtain ⟨v0, vs0, d0, ds0, p0, q0, hargs, rfl, rfl, h0, r0⟩ := trodAll_cons hA
  obtain ⟨v1, vs1, d1, ds1, p1, q1, rfl, rfl, rfl, h1, r1⟩ := trodAll_cons r0
  obtain ⟨rfl, rfl, rfl⟩ := trodAll_nil r1
  obtain rfl : args = #[v0, v1] := by cases args; simp_all
  obtain ⟨rfl, rfl⟩ := trodVars_none hV
  have k0 := h0
  have lt0 : ∀ x ∈ p0, x.block < W.heap.size := by obtain ⟨m, hm⟩ := k0; exact DataW.trod_lt m _ _ _ hm
  obtain ⟨a0, n0, c0, l0, rfl, w0⟩ := dec_entries Try.underlying30 entryT (hval 0 30 v0 rfl rfl) h0
  have k1 := h1
  have lt1 : ∀ x ∈ p1, x.block < W.heap.size := by obtain ⟨m, hm⟩ := k1; exact DataW.trod_lt m _ _ _ hm
  obtain ⟨x1, rfl, w1⟩ := dec_int Try.underlying3 (hval 1 3 v1 rfl rfl) h1
  clear hA0 hval0
  refine (behindMakes_walk w0 x1 w1).mono fun e W' ⟨he, bel⟩ => ?_
  subst he
  exact ⟨_, rfl, _, _, _, [], _, [], hW', trodAll_mk1 (shut_bool Try.underlying4 _), (trodAll_cons_mk (Below.trod laidOut (by kernel_rfl) (of_decide_eq_true (by kernel_rfl)) k0 bel lt0) (trodAll_cons_mk (Below.trod laidOut (by kernel_rfl) (of_decide_eq_true (by kernel_rfl)) k1 bel lt1) trodAll_mk0)), rfl, bel.frame _, fun h => by cases h⟩

theorem over : Rows.behindMakesRow.holds Try.pinned (OpenSpec.ofChange Rows.behindMakesSpec) :=
  OpenClaim.holds_of_wide 4 Try.f4 rfl rfl rfl rfl rfl rfl rfl ⟨rfl, rfl, rfl, rfl, rfl⟩ rfl rfl rfl rfl rfl (by kernel_rfl) Try.func4 (by kernel_rfl)
    (of_decide_eq_true (by kernel_rfl)) (by unfold Func.isWrapper; first | (rw [if_pos (by decide +kernel)]; kernel_rfl) | (rw [if_neg (by decide +kernel)]; exact ⟨rfl, rfl⟩))
    (fun os started H enc _ => lifted os started H enc)
/-- The given statement. -/
theorem proved : Rows.BehindMakesSaid := over
end behindMakes

end Go.Proofs.Ytdaniaijlkflcaa

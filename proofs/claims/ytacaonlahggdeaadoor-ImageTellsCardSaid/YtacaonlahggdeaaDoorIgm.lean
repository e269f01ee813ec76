/- An image is made a text. -/
import Derived.Test.YtacaonlahggdeaaDoorIgp
import Derived.Test.YtacaonlahggdeaaDoorTbytesr
namespace Go.Proofs.YtacaonlahggdeaaDoor
open Go.RowKit
set_option maxRecDepth 20000

set_option maxHeartbeats 4000000 in
theorem imake_any (i : Im) (w : World) (hok : i.ok) (hlen : i.l.length ≤ 100000) (hT : Tab w) :
    Calls Tryd.prog 8 #[imv i] w fun e w' => e = .returned (.tuple #[.string (str (imk i).1), .int .i64 (imk i).2]) ∧ Below w.heap.size w w' := by
  have hgood := fun W h => igood_any i W hok hlen h
  have hT8 := Lib.hid hok.2.2.1
  have htb := fun W => tbytes_any i.T W hok.2.2
  have HG := Lib.hid hgood
  have HTB := Lib.hid htb
  clear hgood htb
  by_cases h : igB i = true
  · have hsz := igB_sz h
    have hmk : imk i = (sealOf (body15 i), 0) := by unfold imk; rw [if_pos h]
    rw [hmk]
    rw [h] at HG
    dsimp only
    have hbl := body15_len i hT8.out
    have HBODY : Hid (le 8 i.L ++ le 8 i.B ++ le 2 i.l.length ++ i.l ++ encT i.T = body15 i) := Lib.hid rfl
    have hput : puts 8 [i.L, i.B] = le 8 i.L ++ le 8 i.B := by simp [puts]
    have HPUT := Lib.hid hput
    clear h hmk hput hok
    go_enter Tryd.func8, Tryd.ntmps8
    go_wp2_with (first
      | (refine wpL_rbox (cs := icells i) rfl (.tmp 0) rfl rfl ?_; intro W0 b hN; obtain ⟨hb, hr, hl1, hz⟩ := hN)
      | (refine imA.wpLoad rfl (.tmp 1) rfl rfl hr.out hT8.out ?_)
      | (go_at_call 10; refine (HG.out _ (hT.below hl1)).mono ?_; rintro e W ⟨rfl, hb1⟩; have HR := Lib.hid (row_below hr.out hb1); have HB := Lib.hid (hl1.trans (hb1.mono hl1.size)); have hbW : b < W.heap.size := by have := hz.out; have := hb1.size; omega)
      | fail)
    clear hr hl1 hz hb1
    refine wp_low W.heap.size [([0, 1, 2, 3, 4, 5, 8, 9], 6), ([], 7), ([], 10)] [11, 12, 13, 14, 15] (by kernel_rfl) (by kernel_rfl) (fun d _ _ _ _ h => by cases d <;> exact h) (Nat.le_refl _) fun wd hbd => ?_
    intro q hq
    have d0 := fun z => icell0 (below_row (hq z) HR.out hbW)
    have d1 := fun z => icell1 (below_row (hq z) HR.out hbW)
    have d2 := fun z => icell2 (below_row (hq z) HR.out hbW)
    simp only [pickI, Option.toList_some, List.cons_append, List.nil_append, List.getElem?_toArray, List.getElem?_cons_succ, List.getElem?_cons_zero]
    try go_frame
    go_big_quiet_step (fail)
    go_big_quiet_step (fail)
    go_big_quiet_step (fail)
    go_big_quiet_step (fail)
    go_big_quiet_step (fail)
    go_big_quiet_step (fail)
    go_big_quiet_step (fail)
    go_big_quiet_step (fail)
    refine wpQuiet_nil ?_
    clear hq q d0 d1 d2
    refine seg_op (by simp only [List.getElem?_toArray, List.getElem?_cons_succ, List.getElem?_cons_zero]; rfl) fun K hK => ?_
    go_simp
    obtain ⟨p0, hp0⟩ : ∃ p, p = wd.heap.size := ⟨_, rfl⟩
    have hlit : Rd (wd.alloc (.cells #[.int .u64 (i.L : Int), .int .u64 (i.B : Int)] 22)) (wd.heap.size + 1) 1 (some ⟨wd.heap.size, 0, none⟩) 2 2 (u64s [i.L, i.B]) := Rd.lit wd #[.int .u64 (i.L : Int), .int .u64 (i.B : Int)] _ rfl (by unfold maxLen; omega) (by omega)
    obtain ⟨v0, hv0⟩ : ∃ v0, v0 = wd.alloc (.cells #[.int .u64 (i.L : Int), .int .u64 (i.B : Int)] 22) := ⟨_, rfl⟩
    have hv0s : v0.heap.size = wd.heap.size + 1 := by rw [hv0]; simp
    have hv0b : Below wd.heap.size wd v0 := by rw [hv0]; exact below1 _ _
    rw [← hv0] at hlit ⊢
    rw [← hv0s, ← hp0] at hlit
    rw [← hp0]
    have HL0 := Lib.hid hlit
    have zv0 := hbd.trans (hv0b.mono hbd.size)
    clear hlit hv0 hv0s hv0b hp0
    refine hK.out _ _ (seg_keep zv0 ?_)
    clear hK K
    intro q hq
    refine wpQuiet_nil ?_
    clear hq q
    refine seg_op (by simp only [List.getElem?_toArray, List.getElem?_cons_succ, List.getElem?_cons_zero]; rfl) fun K hK => ?_
    go_simp
    refine (put_good none _ 0 0 2 2 [] [i.L, i.B] 8 _ Rd.nil_ HL0.out (by omega) (by omega) (by omega)).mono ?_
    rintro e v1 ⟨vs1, rfl, hown1, bv1⟩
    rw [List.nil_append, HPUT.out, show 0 + 2 * 8 = 16 from rfl] at hown1
    obtain ⟨A1, c1, rfl⟩ := ownsRow_form hown1
    have R1 := Lib.hid (ownsRow_rd hown1)
    have zv1 := zv0.trans (bv1.mono zv0.size)
    clear hown1 bv1 HL0
    refine hK.out _ _ (seg_keep zv1 ?_)
    clear hK K
    intro q hq
    refine wpQuiet_nil ?_
    clear hq q
    refine seg_op (by simp only [List.getElem?_toArray, List.getElem?_cons_succ, List.getElem?_cons_zero]; rfl) fun K hK => ?_
    go_simp
    refine (texts_any A1 16 c1 (le 8 i.L ++ le 8 i.B) i.l _ R1.out (by omega) (by omega)).mono ?_
    rintro e v2 ⟨vs2, rfl, hown2, bv2⟩
    obtain ⟨A2, c2, rfl⟩ := ownsRow_form hown2
    have O2 := Lib.hid hown2
    have zv2 := zv1.trans (bv2.mono zv1.size)
    have hv1w : w.heap.size ≤ v1.heap.size := Nat.le_trans HB.out.size zv1.size
    have hle2 : v1.heap.size ≤ v2.heap.size := bv2.size
    clear hown2 bv2 R1
    refine hK.out _ _ (seg_keep zv2 ?_)
    clear hK K
    intro q hq
    have d0 := fun z => icell0 (below_row (hq z) HR.out hbW)
    have d1 := fun z => icell1 (below_row (hq z) HR.out hbW)
    have d2 := fun z => icell2 (below_row (hq z) HR.out hbW)
    simp only [pickI, Option.toList_some, List.cons_append, List.nil_append, List.getElem?_toArray, List.getElem?_cons_succ, List.getElem?_cons_zero]
    try go_frame
    go_big_quiet_step (fail)
    go_big_quiet_step (fail)
    go_big_quiet_step (fail)
    go_big_quiet_step (fail)
    go_big_quiet_step (fail)
    refine wpQuiet_nil ?_
    clear hq q d0 d1 d2
    have HB2 := Lib.hid (HB.out.trans (zv2.mono HB.out.size))
    have hr2 := Lib.hid (below_row zv2 HR.out hbW)
    clear zv0 zv1 zv2 HR HB
    go_wp2_with (first
      | (refine imA.wpLoadT rfl (.tmp 27) rfl rfl hr2.out hT8.out ?_)
      | fail)
    refine (HTB.out _).mono ?_
    rintro e v3 ⟨vs3, rfl, hown3, bv3⟩
    obtain ⟨A3, c3, rfl⟩ := ownsRow_form hown3
    have O3 := Lib.hid (own_below O2.out bv3)
    have R3 := Lib.hid (ownsRow_rd hown3)
    have HB3 := Lib.hid (HB2.out.trans (bv3.mono HB2.out.size))
    have hle3 : v1.heap.size ≤ v3.heap.size := Nat.le_trans hle2 bv3.size
    clear hown3 bv3 O2 hr2
    go_wp2_with (first
      | (refine wpL_app rfl (.tmp 26) (.tmp 29) _ _ rfl E_u8 rfl rfl O3.out (R3.out.src Tryd.underlying62 (u8s_one _)) (by unfold maxLen; omega) (by omega) hle3 ?_; intro v4 w4 hown4 hg4 hat4)
      | fail)
    obtain ⟨A4, c4, rfl⟩ := ownsRow_form hown4
    have hb4 : Below w.heap.size w w4 := HB3.out.grown hg4 HB3.out.size (fun k e => Nat.le_trans hv1w (O3.out.lt k e).1)
    rw [← u8s_app, HBODY.out] at hown4
    refine (seal_any A4 _ c4 (body15 i) _ (ownsRow_rd hown4) (by omega)).mono ?_
    rintro e w5 ⟨v5, rfl, hown5, hb5⟩
    obtain ⟨A5, c5, rfl⟩ := ownsRow_form hown5
    have R5 := ownsRow_rd hown5
    have HF := Lib.hid (hb4.trans (hb5.mono hb4.size))
    clear hown5 hb5 hb4 hown4 hg4 hat4
    go_wp2_with (first
      | (refine wpL_str rfl (.tmp 31) _ _ rfl Tryd.underlying62 Tryd.underlying5 Tryd.underlying9 rfl R5 ?_)
      | fail)
    go_ret2
    exact ⟨rfl, HF.out⟩
  · have hmk := make_no h
    rw [hmk]
    have h' : igB i = false := by simpa using h
    rw [h'] at HG
    dsimp only
    clear h h' hmk hok HTB
    go_enter Tryd.func8, Tryd.ntmps8
    go_wp2_with (first
      | (refine wpL_rbox (cs := icells i) rfl (.tmp 0) rfl rfl ?_; intro W0 b hN; obtain ⟨hb, hr, hl1, hz⟩ := hN)
      | (refine imA.wpLoad rfl (.tmp 1) rfl rfl hr.out hT8.out ?_)
      | (go_at_call 10; refine (HG.out _ (hT.below hl1)).mono ?_; rintro e W ⟨rfl, hb1⟩; have HB := Lib.hid (hl1.trans (hb1.mono hl1.size)))
      | fail)
    go_ret2
    exact ⟨rfl, HB.out⟩

end Go.Proofs.YtacaonlahggdeaaDoor

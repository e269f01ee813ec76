/- A table's bytes, the document's own. -/
import Derived.Test.YtacaonlahggdeaaDoorTbytes
namespace Go.Proofs.YtacaonlahggdeaaDoor
open Go.RowKit
set_option maxRecDepth 20000

set_option maxHeartbeats 2000000 in
theorem rtbytes_any (T : List Cl) (w : World) (hT : Tok T) :
    Calls Tryd.prog 26 #[tbv T] w fun e w' => ∃ v, e = .returned v ∧ w'.ownsRow w.heap.size 5 1 v 80 (u8s (encT T)) ∧ Below w.heap.size w w' := by
  have HT := Lib.hid hT.1
  have HK := Lib.hid hT.2
  clear hT
  go_enter Tryd.func26, Tryd.ntmps26
  go_wp2_with (first
    | (refine wpL_tbox rfl (.tmp 0) rfl rfl ?_; intro W0 b1 hN; obtain ⟨hb1, hr1, hl1, hz1⟩ := hN)
    | fail)
  have hle1 : w.heap.size ≤ b1 := Nat.le_of_eq hb1.out.symm
  go_loopw [3, 4] (fun vr ir wr => ∃ i : Nat, i ≤ 8 ∧ ir = .int .i64 (i : Int) ∧ Hid (wr.ownsRow w.heap.size 5 1 vr (10 * i) (u8s (encT (T.take i)))) ∧ Hid (wr.heap[b1]? = some (.cells (tcells T).toArray 37 (0, 0))) ∧ Hid (Below w.heap.size w wr)) (fun _ ir _ => 8 - (intOf ir).toNat)
  case atStart => exact ⟨0, Nat.zero_le _, rfl, Lib.hid (World.ownsRow_nil _ _ _ _), hr1, Lib.hid hl1⟩
  case round =>
    obtain ⟨i, hi, rfl, RO, R1, RB⟩ := hrel
    obtain ⟨A, c, rfl⟩ := ownsRow_form RO.out
    by_cases hlt : i < 8
    · obtain ⟨p, hp⟩ : ∃ p, T[i]? = some p := ⟨_, List.getElem?_eq_getElem (by have := HT.out; omega)⟩
      obtain ⟨g0, g1⟩ := tcells_get T i p hp
      have hok := HK.out p (List.mem_of_getElem? hp)
      have hw16 : IntKind.u64.wrap (p.2 : Int) = (p.2 : Int) := u64w _ (by omega) (by have := hok.2; omega)
      have HE := Lib.hid (encT_take hp)
      have hsz := RB.out.size
      have hltb : b1 < wr.heap.size := (Array.getElem?_eq_some_iff.1 R1.out).1
      obtain ⟨t, b⟩ := p
      have HOK := Lib.hid hok
      dsimp only at g0 g1 hw16 HE
      have G0 := Lib.hid g0
      have G1 := Lib.hid g1
      clear hp hok g0 g1
      go_wp2_with (fail)
      refine wp_low wr.heap.size [([0, 1, 2, 3, 4, 6, 7, 8, 9, 10], 5), ([], 11)] [12] (by kernel_rfl) (by kernel_rfl) (fun d _ _ _ _ h => by cases d <;> exact h) (Nat.le_refl _) fun wd hbd => ?_
      intro f hf
      have r1 := R1.out
      have d0 : ∀ z, (f z).cell? ⟨b1, i * 2, none⟩ = some (.int .u64 (t : Int)) := fun z => cellz (hf z) r1 (by simpa using G0.out)
      have d1 : ∀ z, (f z).cell? ⟨b1, i * 2 + 1, none⟩ = some (.int .u16 (b : Int)) := fun z => cellz (hf z) r1 (by simpa using G1.out)
      clear r1
      simp only [pickI, Option.toList_some, List.cons_append, List.nil_append, List.getElem?_toArray, List.getElem?_cons_succ, List.getElem?_cons_zero]
      repeat (go_big_quiet_step (fail))
      refine wpQuiet_nil ?_
      clear d0 d1 hf f
      refine seg_op (by simp only [List.getElem?_toArray, List.getElem?_cons_succ, List.getElem?_cons_zero]; rfl) fun K hK => ?_
      have hrd0 := ((ownsRow_rd RO.out).below hbd).more (B' := wd.heap.size) hbd.size
      have HP0 := Lib.hid (rput_good _ _ _ (encT (T.take i)) 8 t _ hrd0 (by omega) (by omega) (by omega) (Lib.hid HOK.out.1))
      clear hrd0
      go_simp
      refine HP0.out.mono ?_
      rintro e w1 ⟨v1, rfl, hown1, hb1w⟩
      obtain ⟨A1, c1, rfl⟩ := ownsRow_form hown1
      have hb01 : Below wr.heap.size wr w1 := hbd.trans (hb1w.mono hbd.size)
      have HB1 := Lib.hid hb01
      have HP1 := Lib.hid (rput_good _ _ _ (encT (T.take i) ++ le 8 t) 2 b _ (ownsRow_rd hown1) (by omega) (by omega) (by omega) (Lib.hid (by have := HOK.out.2; omega)))
      refine hK.out _ _ (seg_keep hb01 ?_)
      clear hK K hb01 hown1 hb1w HP0
      intro g hg
      refine wpQuiet_nil ?_
      clear hg g
      refine seg_op (by simp only [List.getElem?_toArray, List.getElem?_cons_succ, List.getElem?_cons_zero]; rfl) fun K hK => ?_
      go_simp
      refine HP1.out.mono ?_
      rintro e w2 ⟨v2, rfl, hown2, hb2w⟩
      rw [show 10 * i + 8 + 2 = 10 * (i + 1) by omega, ← HE.out] at hown2
      have hb02 : Below wr.heap.size wr w2 := HB1.out.trans (hb2w.mono HB1.out.size)
      have HO2 := Lib.hid (ownsRow_low hown2 (base' := w.heap.size) (by have := HB1.out.size; omega))
      have HB2 := Lib.hid (RB.out.trans (hb02.mono hsz))
      have R2 := Lib.hid ((hb02.block b1 hltb).trans R1.out)
      refine hK.out _ _ (seg_keep hb02 ?_)
      clear hK K hown2 hb2w hb02 HP1
      intro g hg
      simp only [pickI, Option.toList_some, List.cons_append, List.nil_append, List.getElem?_toArray, List.getElem?_cons_succ, List.getElem?_cons_zero]
      repeat (go_big_quiet_step (fail))
      refine wpQuiet_nil ?_
      clear hg g
      go_wp2_with (fail)
      go_roundw
      case rel => exact ⟨i + 1, by omega, by go_num, HO2, R2, HB2⟩
      case measure => simp [intOf]; omega
    · obtain rfl : i = 8 := by omega
      have hown := RO.out
      rw [List.take_of_length_le (by rw [HT.out]; exact Nat.le_refl _)] at hown
      have HO := Lib.hid hown
      clear hown RO
      go_wp2
      go_ret
      exact ⟨_, rfl, HO.out, RB.out⟩

end Go.Proofs.YtacaonlahggdeaaDoor

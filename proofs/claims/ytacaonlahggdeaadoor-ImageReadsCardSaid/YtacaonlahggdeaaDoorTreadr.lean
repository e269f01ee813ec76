/- A table is read, the document's own. -/
import Derived.Test.YtacaonlahggdeaaDoorTread
namespace Go.Proofs.YtacaonlahggdeaaDoor
open Go.RowKit
set_option maxRecDepth 20000

theorem set2 (L : List Cl) (i : Nat) (hL : L.length = i) (hi : i < 8) (t b : Nat) : ((tcells (L ++ T0.drop i)).set (i * 2) (.int .u64 (t : Int))).set (i * 2 + 1) (.int .u16 (b : Int)) = tcells ((L ++ [(t, b)]) ++ T0.drop (i + 1)) := by
  rw [← put_next L i (t, b) hL hi, ← tcells_set]

set_option maxRecDepth 20000 in
set_option maxHeartbeats 2000000 in
theorem rtread_any (B g n c a0 : Nat) (b0 : Bool) (s0 : St) (A : Option Addr) (l : List UInt8) (w : World) (h : RefR w g A n c a0 b0) (ha0 : a0 ≤ n) (hs0 : Hid (refSt l a0 b0 = s0)) (hr : Rd w B 1 A n c (u8s l)) (hB : B ≤ g) (hn : n ≤ 1000000) :
    Calls Tryd.prog 41 #[.pointer (some ⟨g, 0, none⟩)] w fun e w' => e = .returned (tbv (rdT s0)) ∧ ∃ a b, RefR w' g A n c a b ∧ a ≤ n ∧ refSt l a b = (rdN 8 s0).2 ∧ w.grownBy w' (some g) := by
  have hg := h.lt
  have HR := Lib.hid h
  have HD := Lib.hid hr
  clear h hr
  go_enter Tryd.func41, Tryd.ntmps41
  go_wp2_with (first
    | (refine tabB.wpNew (o := ⟨some 2, _, _, _, _, _⟩) rfl rfl ?_; intro W1 b2 hN; obtain ⟨hb2, hr2, hl2, hz2⟩ := hN)
    | (refine tabB.wpNew (o := ⟨some 3, _, _, _, _, _⟩) rfl rfl ?_; intro W2 b3 hN; obtain ⟨hb3, hr3, hl3, hz3⟩ := hN
       have h23 := Lib.hid (row_below hr2.out hl3)
       have lt3 : b2 < b3 := by have := hb3.out; have := hz2.out; omega)
    | fail)
  have hlow : Below w.heap.size w W2 := hl2.trans (hl3.mono hl2.size)
  have hle2 : w.heap.size ≤ b2 := Nat.le_of_eq hb2.out.symm
  have hR2 := HR.out.kept (only_of_below hlow none) (by simp)
  go_loopw [4] (fun ir wr => ∃ i a : Nat, ∃ bb : Bool, i ≤ 8 ∧ ir = .int .i64 (i : Int) ∧ Hid (RefR wr g A n c a bb) ∧ a ≤ n ∧ Hid (refSt l a bb = (rdN i s0).2) ∧ Hid (wr.heap[b2]? = some (.cells (tcells T0).toArray 37 (0, 0))) ∧ Hid (wr.heap[b3]? = some (.cells (tcells ((rdN i s0).1 ++ T0.drop i)).toArray 37 (0, 0))) ∧ Hid (w.grownBy wr (some g))) (fun ir _ => 8 - (intOf ir).toNat)
  case atStart => exact ⟨0, a0, b0, Nat.zero_le _, rfl, Lib.hid hR2, ha0, Lib.hid hs0.out, h23, hr3, Lib.hid (only_of_below hlow _)⟩
  case round =>
    obtain ⟨i, a, bb, hi, rfl, RR, hal, RS, R2, R3, RG⟩ := hrel
    by_cases hlt : i < 8
    · have hd := fun (W : World) (hG : w.grownBy W (some g)) => HD.out.keep (w' := W) fun b o hb => World.cell?_of_block (a := ⟨b, o, none⟩) (hG.block b (by omega) (fun e => by have := Option.some.inj e; omega))
      have HD1 := Lib.hid hd
      have hfin : (rdN (i + 1) s0) = ((rdN i s0).1 ++ [(rd1 (rdN i s0).2).1], (rd1 (rdN i s0).2).2) := rfl
      unfold rd1 at hfin
      rw [← RS.out] at hfin
      have HF := Lib.hid hfin
      have hL := rdN_len i s0
      have hnx := next0 _ i hL hlt
      have HSET := Lib.hid (fun t b => set2 _ i hL hlt t b)
      obtain ⟨z0, z1⟩ := tcells_get _ i _ hnx
      have Z0 := Lib.hid z0
      have Z1 := Lib.hid z1
      clear hfin hnx z0 z1 hL hd
      go_wp2_with (fail)
      refine (rnum_any B g n c a bb A l 8 _ RR.out (HD1.out _ RG.out) hB hal hn (by decide) (by decide)).mono ?_
      rintro e w1 ⟨a1, bb1, rfl, hR1, ha1, hs1, hg1⟩
      generalize hA : (refSt l a bb).num 8 = ra at *
      obtain ⟨t, s1⟩ := ra
      dsimp only at hs1 ⊢
      have HA := Lib.hid hA
      have HS1 := Lib.hid hs1
      have HR1 := Lib.hid hR1
      have k2 := Lib.hid (row_far R2.out hg1 (fun e => by have := Option.some.inj e; omega))
      have k3 := Lib.hid (row_far R3.out hg1 (fun e => by have := Option.some.inj e; omega))
      have HG1 := Lib.hid (only_trans RG.out hg1)
      have d0 : w1.cell? ⟨b3, i * 2, none⟩ = some (.int .u64 (0 : Int)) := by rw [cell_of_row w1 b3 _ _ _ _ k3.out]; simpa using Z0.out
      have f0 := frozen_of_row w1 b3 (i * 2) _ _ k3.out
      have hgs : w1.grownBy (w1.setCell ⟨b3, i * 2, none⟩ (.int .u64 (t : Int))) (some b3) := setCell_by (w' := w1) (p := ⟨b3, i * 2, none⟩) (World.grownBy.refl w1 (some b3)) rfl _
      have hp3 := heap_setCell_same w1 b3 (i * 2) _ _ (.int .u64 (t : Int)) k3.out
      have HRs := Lib.hid (HR1.out.kept hgs (fun e => by have := Option.some.inj e; omega))
      have q2 := Lib.hid (row_far k2.out hgs (fun e => by have := Option.some.inj e; omega))
      have HGs := Lib.hid (only_new HG1.out hgs (by omega))
      have P3 := Lib.hid hp3
      clear hR1 hg1 hs1 hA hgs hp3
      go_wp2_with (fail)
      refine (rnum_any B g n c a1 bb1 A l 2 _ HRs.out (HD1.out _ HGs.out) hB ha1 hn (by decide) (by decide)).mono ?_
      rintro e w2 ⟨a2, bb2, rfl, hR2', ha2, hs2, hg2⟩
      rw [HS1.out] at hs2 ⊢
      generalize hBq : s1.num 2 = rb at *
      obtain ⟨b, s2⟩ := rb
      dsimp only at hs2 ⊢
      have hcv : IntKind.u16.wrap (b : Int) = ((b % 65536 : Nat) : Int) := by rw [IntKind.wrap_u16]; omega
      have m2 := Lib.hid (row_far q2.out hg2 (fun e => by have := Option.some.inj e; omega))
      have m3 := Lib.hid (row_far P3.out hg2 (fun e => by have := Option.some.inj e; omega))
      have HR2 := Lib.hid hR2'
      have HG2 := Lib.hid (only_trans HGs.out hg2)
      have HS2 := Lib.hid hs2
      have HBq := Lib.hid hBq
      have d1 : w2.cell? ⟨b3, i * 2 + 1, none⟩ = some (.int .u16 (0 : Int)) := by
        rw [cell_of_row w2 b3 _ _ _ _ m3.out]
        have := Z1.out
        simp [this]
      have f1 := frozen_of_row w2 b3 (i * 2 + 1) _ _ m3.out
      have hgt : w2.grownBy (w2.setCell ⟨b3, i * 2 + 1, none⟩ (.int .u16 ((b % 65536 : Nat) : Int))) (some b3) := setCell_by (w' := w2) (p := ⟨b3, i * 2 + 1, none⟩) (World.grownBy.refl w2 (some b3)) rfl _
      have hq3 : (w2.setCell ⟨b3, i * 2 + 1, none⟩ (.int .u16 ((b % 65536 : Nat) : Int))).heap[b3]? = some (.cells (tcells ((rdN (i + 1) s0).1 ++ T0.drop (i + 1))).toArray 37 (0, 0)) := by
        rw [heap_setCell_same w2 b3 _ _ _ _ m3.out, HF.out]
        dsimp only
        rw [← HSET.out t (b % 65536)]
        simp
      have P4 := Lib.hid hq3
      have HRn := Lib.hid (HR2.out.kept hgt (fun e => by have := Option.some.inj e; omega))
      have v2 := Lib.hid (row_far m2.out hgt (fun e => by have := Option.some.inj e; omega))
      have HGn := Lib.hid (only_new HG2.out hgt (by omega))
      have HSn : Hid (refSt l a2 bb2 = (rdN (i + 1) s0).2) := Lib.hid (by rw [HF.out]; exact HS2.out)
      clear hR2' hg2 hs2 hBq hgt hq3
      go_wp2_with (fail)
      go_roundw
      case rel => exact ⟨i + 1, a2, bb2, by omega, by go_num, HRn, ha2, HSn, v2, P4, HGn⟩
      case measure => simp [intOf]; omega
    · obtain rfl : i = 8 := by omega
      have hL := rdN_len 8 s0
      have hdef : rdT s0 = if (rdN 8 s0).2.bad then T0 else (rdN 8 s0).1 := rfl
      have hbb : bb = (rdN 8 s0).2.bad := by rw [← RS.out]; unfold refSt; cases bb <;> rfl
      rw [← hbb] at hdef
      have hc2 := RR.out.cell2
      have h3 := R3.out
      rw [show T0.drop 8 = [] from rfl, List.append_nil] at h3
      have H3 := Lib.hid h3
      have HL := Lib.hid hL
      clear h3 R3 hL hbb
      cases bb
      · have HDEF := Lib.hid (show rdT s0 = (rdN 8 s0).1 by simpa using hdef)
        clear hdef
        go_wp2_with (first
          | (refine tabB.wpLoad (o := ⟨some 25, _, _, _, _, _⟩) rfl (.tmp 3) rfl rfl H3.out HL.out ?_)
          | (refine tabB.wpStore rfl (.tmp 2) (.tmp 25) rfl rfl rfl R2.out rfl HL.out ?_; intro W9 hr9 hg9 hz9)
          | fail)
        refine bodyPost_ret (results_cell_row (fn := Tryd.f41) rfl _ _ b2 37 _ (0, 0) _ rfl hr9.out Tryd.underlying37 rfl (by rw [tabB.size]; simp [tcells_len, HL.out])) rfl ⟨by rw [HDEF.out]; rfl, a, false, RR.out.kept hg9 (fun e => by have := Option.some.inj e; omega), hal, RS.out, only_new RG.out hg9 (by omega)⟩
      · have HDEF := Lib.hid (show rdT s0 = T0 by simpa using hdef)
        clear hdef
        go_wp2_with (first
          | (refine tabB.wpBuild (o := ⟨some 24, _, _, _, _, _⟩) rfl rfl ?_)
          | (refine tabB.wpStore rfl (.tmp 2) (.tmp 24) rfl rfl rfl R2.out rfl rfl ?_; intro W9 hr9 hg9 hz9)
          | fail)
        refine bodyPost_ret (results_cell_row (fn := Tryd.f41) rfl _ _ b2 37 _ (0, 0) _ rfl hr9.out Tryd.underlying37 rfl (by rw [tabB.size]; rfl)) rfl ⟨by rw [HDEF.out]; rfl, a, true, RR.out.kept hg9 (fun e => by have := Option.some.inj e; omega), hal, RS.out, only_new RG.out hg9 (by omega)⟩

end Go.Proofs.YtacaonlahggdeaaDoor

/- SpanParts: what two spans have in common, and what one has without the other, is all that it has, block by block, and who meets whom does not hang on the order: the law answers true for all spans and blocks. -/
import Derived.Test.YtijkagfppeeegaaSlives
import Derived.Test.YtijkagfppeeegaaRowkit
namespace Go.Proofs.Ytijkagfppeeegaa
open Go.RowKit

theorem two_fits (p q : Nat × Nat) (hp : p.1 < 4294967296 ∧ p.2 < 4294967296) (hq : q.1 < 4294967296 ∧ q.2 < 4294967296) : Fits (two p q) := by
  intro r hr
  unfold two at hr
  rcases List.mem_append.1 hr with h | h
  · split at h
    · cases h
    · simp at h; subst h; exact hp
  · split at h
    · cases h
    · simp at h; subst h; exact hq
theorem two_len (p q : Nat × Nat) : (two p q).length ≤ 2 := by unfold two; split <;> split <;> simp
theorem wo_fits (a b c d : Nat) (ha : a < 4294967296) (hb : b < 4294967296) (hc : c < 4294967296) (hd : d < 4294967296) : Fits (wo a b c d) := by
  rw [← wo_eq a b c d ha hb hc hd]
  have hY : en a b = min (a + b) 4294967296 := rfl
  exact two_fits _ _ (upt_lt _ _ (by omega)) (upt_lt _ _ (by omega))
theorem wo_len (a b c d : Nat) (ha : a < 4294967296) (hb : b < 4294967296) (hc : c < 4294967296) (hd : d < 4294967296) : (wo a b c d).length ≤ 2 := by
  rw [← wo_eq a b c d ha hb hc hd]; exact two_len _ _

theorem any_snoc (L : List (Nat × Nat)) (p : Nat × Nat) (x : Nat) : anyHas (L ++ [p]) x = (anyHas L x || decide (p.1 ≤ x ∧ x < p.1 + p.2)) := by simp [anyHas]

set_option maxHeartbeats 2000000 in
theorem spanParts_walk (a b c d x : Nat) (w : World) (ha : a < 4294967296) (hb : b < 4294967296) (hc : c < 4294967296) (hd : d < 4294967296) (hx : x < 4294967296) :
    Calls Try.prog 4 #[.agg #[.int .u32 (a : Int), .int .u32 (b : Int)], .agg #[.int .u32 (c : Int), .int .u32 (d : Int)], .int .u32 (x : Int)] w fun e w' => e = .returned (.bool true) ∧ Below w.heap.size w w' := by
  have hW := fun W => without_any a b c d W ha hb hc hd
  have hA := fun W => has_any a b x W ha hb hx
  have hB := fun W => has_any c d x W hc hd hx
  have hM1 := fun W => meet_any a b c d W ha hb hc hd
  have hM2 := fun W => meet_any c d a b W hc hd ha hb
  have hC1 := fun W => common_any a b c d W ha hb hc hd
  have hC2 := fun W => common_any c d a b W hc hd ha hb
  have hcl := cm_lt a b c d
  have hch := cm_has a b c d x ha hb hx
  have hwh := wo_has a b c d x ha hb hc hd hx
  have hwf := wo_fits a b c d ha hb hc hd
  have hwl := wo_len a b c d ha hb hc hd
  rw [← cm_comm a b c d] at hM2 hC2
  have hCH := fun W => has_any (cm a b c d).1 (cm a b c d).2 x W hcl.1 hcl.2 hx
  rw [hch] at hCH
  generalize cm a b c d = p at *
  generalize wo a b c d = L at *
  generalize decide (a ≤ x ∧ x < a + b) = A at *
  generalize decide (c ≤ x ∧ x < c + d) = B at *
  generalize hMd : decide (0 < p.2) = M at *
  obtain ⟨p1, p2⟩ := p
  simp only at hC1 hC2 hCH hcl
  have qM : (M == M) = true := beq_self_eq_true M
  have qp1 : ((p1 : Int) == (p1 : Int)) = true := beq_self_eq_true _
  have qp2 : ((p2 : Int) == (p2 : Int)) = true := beq_self_eq_true _
  have HWF := Lib.hid hwf
  have HWH := Lib.hid hwh
  clear hwf hwh hcl hch hMd
  go_enter Try.func4, Try.ntmps4
  go_wp2_with fail
  refine (hW _).mono ?_
  rintro e w1 ⟨v, rfl, hown, hb1⟩
  obtain ⟨W, hW2, hWs, r0, r1, hwW⟩ := boxes2 w #[.int .u32 (a : Int), .int .u32 (b : Int)] #[.int .u32 (c : Int), .int .u32 (d : Int)] 24 24
  rw [← hW2] at hb1 hown
  have hz1 := hb1.size
  have r0 := (hb1.block _ (by omega)).trans r0
  have r1 := (hb1.block _ (by omega)).trans r1
  have HW1 := Lib.hid (hwW.trans (hb1.mono hwW.size))
  have hws : w.heap.size + 2 ≤ w1.heap.size := by omega
  obtain ⟨G, cap, rfl⟩ := ownsRow_form hown
  have HOWN := Lib.hid hown
  clear hown hW2 hb1 hwW hW hWs hz1
  go_wp2
  go_loopw [7, 15] (fun vr ir wr => ∃ (i : Nat) (C : Bool), i ≤ L.length ∧ ir = .int .i64 i ∧ vr = .bool C ∧ Hid (C = anyHas (L.take i) x) ∧ Hid (Below w1.heap.size w1 wr)) (fun _ ir _ => L.length - (intOf ir).toNat)
  case atStart => exact ⟨0, false, Nat.zero_le _, rfl, rfl, Lib.hid rfl, Lib.hid (Below.refl _ _)⟩
  case round =>
    obtain ⟨i, C, hi, rfl, rfl, HC, HB⟩ := hrel
    by_cases hlt : i < L.length
    · obtain ⟨g, cap', hG, _, _, h1, h2⟩ := owns_some HOWN.out (by omega)
      cases hG
      have hp : L[i]? = some L[i] := List.getElem?_eq_getElem hlt
      have hpf := HWF.out _ (List.getElem_mem hlt)
      have hcp := sps_get L i _ hp
      have hor := owns_below HOWN.out HB.out
      have c0 := (hor.cellAt (i * 2) (by omega)).trans hcp.1
      have c1 := (hor.cellAt (i * 2 + 1) (by omega)).trans hcp.2
      have hsn : anyHas (L.take (i + 1)) x = (C || decide (L[i].1 ≤ x ∧ x < L[i].1 + L[i].2)) := by rw [List.take_succ_eq_append_getElem hlt, any_snoc, ← HC.out]
      generalize L[i] = s at *
      obtain ⟨f, k⟩ := s
      simp only at c0 c1 hpf hsn
      have hHs := fun W => has_any f k x W hpf.1 hpf.2 hx
      generalize decide (f ≤ x ∧ x < f + k) = D at *
      have HSN := Lib.hid hsn
      clear hsn hp hcp hor hpf
      cases C
      · go_wp2_with (go_at_call 6; (with_reducible refine (hHs _).mono ?_); rintro e w2 ⟨rfl, hb2⟩)
        go_roundw
        case rel => exact ⟨i + 1, D, by omega, by go_num, rfl, Lib.hid (by rw [HSN.out]; rfl), Lib.hid (HB.out.trans ((unal hb2).mono HB.out.size))⟩
        case measure => simp [intOf]; omega
      · go_wp2_with (go_at_call 6; (with_reducible refine (hHs _).mono ?_); rintro e w2 ⟨rfl, hb2⟩)
        go_roundw
        case rel => exact ⟨i + 1, true, by omega, by go_num, rfl, Lib.hid (by rw [HSN.out]; rfl), Lib.hid (HB.out.alloc HB.out.size _)⟩
        case measure => simp [intOf]; omega
    · have hC : C = (A && !B) := by rw [HC.out, List.take_of_length_le (by omega), HWH.out]
      have hbl := HB.out
      have r0 := (hbl.block _ (by omega)).trans r0
      have r1 := (hbl.block _ (by omega)).trans r1
      have hwr := Lib.hid (HW1.out.trans (hbl.mono HW1.out.size))
      have hsz := hbl.size
      clear HC HB hbl
      generalize wr = Z0 at *
      have k0 := cell_of_row Z0 _ 0 _ _ _ r0
      have k1 := cell_of_row Z0 _ 1 _ _ _ r0
      have k2 := cell_of_row Z0 _ 0 _ _ _ r1
      have k3 := cell_of_row Z0 _ 1 _ _ _ r1
      simp at k0 k1 k2 k3
      cases A
      · cases B
        · have hC2' : C = false := hC
          subst hC2'
          clear hC
          go_wp2_with (first
            | (go_at_call 9; (with_reducible refine (hC1 _).mono ?_); rintro e w5 ⟨rfl, hb5⟩)
            | (go_at_call 6; (with_reducible refine (hCH _).mono ?_); rintro e w6 ⟨rfl, hb6⟩)
            | fail)
          have h56 := hb5.trans (hb6.mono hb5.size)
          have r0 := (h56.block _ (by omega)).trans r0
          have r1 := (h56.block _ (by omega)).trans r1
          have hbw := Lib.hid (hwr.out.trans (h56.mono hwr.out.size))
          clear hb5 hb6 h56 k0 k1 k2 k3
          have hzz := hbw.out.size
          generalize w6 = Z at *
          have hZ : w.heap.size + 1 < Z.heap.size := (Array.getElem?_eq_some_iff.1 r1).1
          refine wp_low Z.heap.size [([0, 1, 2], 3), ([4, 5, 6], 7), ([8, 9, 10, 11, 12, 13], 14), ([15, 16, 17], 18), ([19, 20, 21, 22, 23, 24, 25, 27, 28], 26), ([], 29), ([30, 31, 32, 33, 34, 36, 37], 35), ([], 38), ([39, 40, 41], 42)] [43, 44] (by kernel_rfl) (by kernel_rfl) (fun d _ _ _ _ h => by cases d <;> exact h) (Nat.le_refl _) fun wd hbd => ?_
          intro q hq
          have d0 := fun z => cellz (j := 0) (hq z) r0 rfl
          have d1 := fun z => cellz (j := 1) (hq z) r0 rfl
          have d2 := fun z => cellz (j := 0) (hq z) r1 rfl
          have d3 := fun z => cellz (j := 1) (hq z) r1 rfl
          simp only [pickI, Option.toList_some, List.cons_append, List.nil_append, List.getElem?_toArray, List.getElem?_cons_succ, List.getElem?_cons_zero]
          repeat (go_big_quiet_step (fail))
          refine wpQuiet_nil ?_
          clear d0 d1 d2 d3 hq q
          refine seg_op (by simp only [List.getElem?_toArray, List.getElem?_cons_succ, List.getElem?_cons_zero]; rfl) fun K hK => ?_
          go_simp
          refine (hA _).mono ?_
          rintro e v0 ⟨rfl, bv0⟩
          have zv0 := hbd.trans (bv0.mono hbd.size)
          refine hK.out _ _ (seg_keep zv0 ?_)
          clear hK K
          intro q hq
          have d0 := fun z => cellz (j := 0) (hq z) r0 rfl
          have d1 := fun z => cellz (j := 1) (hq z) r0 rfl
          have d2 := fun z => cellz (j := 0) (hq z) r1 rfl
          have d3 := fun z => cellz (j := 1) (hq z) r1 rfl
          simp only [pickI, Option.toList_some, List.cons_append, List.nil_append, List.getElem?_toArray, List.getElem?_cons_succ, List.getElem?_cons_zero]
          repeat (go_big_quiet_step (fail))
          refine wpQuiet_nil ?_
          clear d0 d1 d2 d3 hq q
          refine seg_op (by simp only [List.getElem?_toArray, List.getElem?_cons_succ, List.getElem?_cons_zero]; rfl) fun K hK => ?_
          go_simp
          refine hK.out _ _ (seg_keep zv0 ?_)
          clear hK K
          intro q hq
          have d0 := fun z => cellz (j := 0) (hq z) r0 rfl
          have d1 := fun z => cellz (j := 1) (hq z) r0 rfl
          have d2 := fun z => cellz (j := 0) (hq z) r1 rfl
          have d3 := fun z => cellz (j := 1) (hq z) r1 rfl
          simp only [pickI, Option.toList_some, List.cons_append, List.nil_append, List.getElem?_toArray, List.getElem?_cons_succ, List.getElem?_cons_zero]
          repeat (go_big_quiet_step (fail))
          refine wpQuiet_nil ?_
          clear d0 d1 d2 d3 hq q
          refine seg_op (by simp only [List.getElem?_toArray, List.getElem?_cons_succ, List.getElem?_cons_zero]; rfl) fun K hK => ?_
          go_simp
          refine (hA _).mono ?_
          rintro e v2 ⟨rfl, bv2⟩
          have zv2 := zv0.trans (bv2.mono zv0.size)
          refine hK.out _ _ (seg_keep zv2 ?_)
          clear hK K
          intro q hq
          have d0 := fun z => cellz (j := 0) (hq z) r0 rfl
          have d1 := fun z => cellz (j := 1) (hq z) r0 rfl
          have d2 := fun z => cellz (j := 0) (hq z) r1 rfl
          have d3 := fun z => cellz (j := 1) (hq z) r1 rfl
          simp only [pickI, Option.toList_some, List.cons_append, List.nil_append, List.getElem?_toArray, List.getElem?_cons_succ, List.getElem?_cons_zero]
          repeat (go_big_quiet_step (fail))
          refine wpQuiet_nil ?_
          clear d0 d1 d2 d3 hq q
          refine seg_op (by simp only [List.getElem?_toArray, List.getElem?_cons_succ, List.getElem?_cons_zero]; rfl) fun K hK => ?_
          go_simp
          refine hK.out _ _ (seg_keep zv2 ?_)
          clear hK K
          intro q hq
          have d0 := fun z => cellz (j := 0) (hq z) r0 rfl
          have d1 := fun z => cellz (j := 1) (hq z) r0 rfl
          have d2 := fun z => cellz (j := 0) (hq z) r1 rfl
          have d3 := fun z => cellz (j := 1) (hq z) r1 rfl
          simp only [pickI, Option.toList_some, List.cons_append, List.nil_append, List.getElem?_toArray, List.getElem?_cons_succ, List.getElem?_cons_zero]
          repeat (go_big_quiet_step (fail))
          refine wpQuiet_nil ?_
          clear d0 d1 d2 d3 hq q
          refine seg_op (by simp only [List.getElem?_toArray, List.getElem?_cons_succ, List.getElem?_cons_zero]; rfl) fun K hK => ?_
          go_simp
          refine (hM1 _).mono ?_
          rintro e v4 ⟨rfl, bv4⟩
          have zv4 := zv2.trans (bv4.mono zv2.size)
          refine hK.out _ _ (seg_keep zv4 ?_)
          clear hK K
          intro q hq
          refine wpQuiet_nil ?_
          clear hq q
          refine seg_op (by simp only [List.getElem?_toArray, List.getElem?_cons_succ, List.getElem?_cons_zero]; rfl) fun K hK => ?_
          go_simp
          refine (hM2 _).mono ?_
          rintro e v5 ⟨rfl, bv5⟩
          have zv5 := zv4.trans (bv5.mono zv4.size)
          refine hK.out _ _ (seg_keep zv5 ?_)
          clear hK K
          intro q hq
          have d0 := fun z => cellz (j := 0) (hq z) r0 rfl
          have d1 := fun z => cellz (j := 1) (hq z) r0 rfl
          have d2 := fun z => cellz (j := 0) (hq z) r1 rfl
          have d3 := fun z => cellz (j := 1) (hq z) r1 rfl
          simp only [pickI, Option.toList_some, List.cons_append, List.nil_append, List.getElem?_toArray, List.getElem?_cons_succ, List.getElem?_cons_zero]
          repeat (go_big_quiet_step (fail))
          refine wpQuiet_nil ?_
          clear d0 d1 d2 d3 hq q
          refine seg_op (by simp only [List.getElem?_toArray, List.getElem?_cons_succ, List.getElem?_cons_zero]; rfl) fun K hK => ?_
          go_simp
          refine (hC1 _).mono ?_
          rintro e v6 ⟨rfl, bv6⟩
          have zv6 := zv5.trans (bv6.mono zv5.size)
          refine hK.out _ _ (seg_keep zv6 ?_)
          clear hK K
          intro q hq
          refine wpQuiet_nil ?_
          clear hq q
          refine seg_op (by simp only [List.getElem?_toArray, List.getElem?_cons_succ, List.getElem?_cons_zero]; rfl) fun K hK => ?_
          go_simp
          refine (hC2 _).mono ?_
          rintro e v7 ⟨rfl, bv7⟩
          have zv7 := zv6.trans (bv7.mono zv6.size)
          refine hK.out _ _ (seg_keep zv7 ?_)
          clear hK K
          intro q hq
          have d0 := fun z => cellz (j := 0) (hq z) r0 rfl
          have d1 := fun z => cellz (j := 1) (hq z) r0 rfl
          have d2 := fun z => cellz (j := 0) (hq z) r1 rfl
          have d3 := fun z => cellz (j := 1) (hq z) r1 rfl
          simp only [pickI, Option.toList_some, List.cons_append, List.nil_append, List.getElem?_toArray, List.getElem?_cons_succ, List.getElem?_cons_zero]
          repeat (go_big_quiet_step (fail))
          refine wpQuiet_nil ?_
          clear d0 d1 d2 d3 hq q
          refine seg_op (by simp only [List.getElem?_toArray, List.getElem?_cons_succ, List.getElem?_cons_zero]; rfl) fun K hK => ?_
          go_simp
          refine (lives3 _).mono ?_
          rintro e v8 ⟨rfl, bv8⟩
          have zv8 := zv7.trans (bv8.mono zv7.size)
          refine hK.out _ _ (seg_keep zv8 ?_)
          clear hK K
          intro q hq
          have d0 := fun z => cellz (j := 0) (hq z) r0 rfl
          have d1 := fun z => cellz (j := 1) (hq z) r0 rfl
          have d2 := fun z => cellz (j := 0) (hq z) r1 rfl
          have d3 := fun z => cellz (j := 1) (hq z) r1 rfl
          simp only [pickI, Option.toList_some, List.cons_append, List.nil_append, List.getElem?_toArray, List.getElem?_cons_succ, List.getElem?_cons_zero]
          repeat (go_big_quiet_step (fail))
          refine wpQuiet_nil ?_
          clear d0 d1 d2 d3 hq q
          have hfin := zv8
          go_wp2
          go_ret
          exact ⟨rfl, hbw.out.trans (hfin.mono hbw.out.size)⟩
        · have hC2' : C = false := hC
          subst hC2'
          clear hC
          go_wp2_with (first
            | (go_at_call 9; (with_reducible refine (hC1 _).mono ?_); rintro e w5 ⟨rfl, hb5⟩)
            | (go_at_call 6; (with_reducible refine (hCH _).mono ?_); rintro e w6 ⟨rfl, hb6⟩)
            | fail)
          have h56 := hb5.trans (hb6.mono hb5.size)
          have r0 := (h56.block _ (by omega)).trans r0
          have r1 := (h56.block _ (by omega)).trans r1
          have hbw := Lib.hid (hwr.out.trans (h56.mono hwr.out.size))
          clear hb5 hb6 h56 k0 k1 k2 k3
          have hzz := hbw.out.size
          generalize w6 = Z at *
          have hZ : w.heap.size + 1 < Z.heap.size := (Array.getElem?_eq_some_iff.1 r1).1
          refine wp_low Z.heap.size [([0, 1, 2], 3), ([4, 5, 6], 7), ([8, 9, 10, 11, 12, 13], 14), ([15, 16, 17], 18), ([19, 20, 21, 22, 23, 24, 25, 27, 28], 26), ([], 29), ([30, 31, 32, 33, 34, 36, 37], 35), ([], 38), ([39, 40, 41], 42)] [43, 44] (by kernel_rfl) (by kernel_rfl) (fun d _ _ _ _ h => by cases d <;> exact h) (Nat.le_refl _) fun wd hbd => ?_
          intro q hq
          have d0 := fun z => cellz (j := 0) (hq z) r0 rfl
          have d1 := fun z => cellz (j := 1) (hq z) r0 rfl
          have d2 := fun z => cellz (j := 0) (hq z) r1 rfl
          have d3 := fun z => cellz (j := 1) (hq z) r1 rfl
          simp only [pickI, Option.toList_some, List.cons_append, List.nil_append, List.getElem?_toArray, List.getElem?_cons_succ, List.getElem?_cons_zero]
          repeat (go_big_quiet_step (fail))
          refine wpQuiet_nil ?_
          clear d0 d1 d2 d3 hq q
          refine seg_op (by simp only [List.getElem?_toArray, List.getElem?_cons_succ, List.getElem?_cons_zero]; rfl) fun K hK => ?_
          go_simp
          refine (hA _).mono ?_
          rintro e v0 ⟨rfl, bv0⟩
          have zv0 := hbd.trans (bv0.mono hbd.size)
          refine hK.out _ _ (seg_keep zv0 ?_)
          clear hK K
          intro q hq
          have d0 := fun z => cellz (j := 0) (hq z) r0 rfl
          have d1 := fun z => cellz (j := 1) (hq z) r0 rfl
          have d2 := fun z => cellz (j := 0) (hq z) r1 rfl
          have d3 := fun z => cellz (j := 1) (hq z) r1 rfl
          simp only [pickI, Option.toList_some, List.cons_append, List.nil_append, List.getElem?_toArray, List.getElem?_cons_succ, List.getElem?_cons_zero]
          repeat (go_big_quiet_step (fail))
          refine wpQuiet_nil ?_
          clear d0 d1 d2 d3 hq q
          refine seg_op (by simp only [List.getElem?_toArray, List.getElem?_cons_succ, List.getElem?_cons_zero]; rfl) fun K hK => ?_
          go_simp
          refine hK.out _ _ (seg_keep zv0 ?_)
          clear hK K
          intro q hq
          have d0 := fun z => cellz (j := 0) (hq z) r0 rfl
          have d1 := fun z => cellz (j := 1) (hq z) r0 rfl
          have d2 := fun z => cellz (j := 0) (hq z) r1 rfl
          have d3 := fun z => cellz (j := 1) (hq z) r1 rfl
          simp only [pickI, Option.toList_some, List.cons_append, List.nil_append, List.getElem?_toArray, List.getElem?_cons_succ, List.getElem?_cons_zero]
          repeat (go_big_quiet_step (fail))
          refine wpQuiet_nil ?_
          clear d0 d1 d2 d3 hq q
          refine seg_op (by simp only [List.getElem?_toArray, List.getElem?_cons_succ, List.getElem?_cons_zero]; rfl) fun K hK => ?_
          go_simp
          refine (hA _).mono ?_
          rintro e v2 ⟨rfl, bv2⟩
          have zv2 := zv0.trans (bv2.mono zv0.size)
          refine hK.out _ _ (seg_keep zv2 ?_)
          clear hK K
          intro q hq
          have d0 := fun z => cellz (j := 0) (hq z) r0 rfl
          have d1 := fun z => cellz (j := 1) (hq z) r0 rfl
          have d2 := fun z => cellz (j := 0) (hq z) r1 rfl
          have d3 := fun z => cellz (j := 1) (hq z) r1 rfl
          simp only [pickI, Option.toList_some, List.cons_append, List.nil_append, List.getElem?_toArray, List.getElem?_cons_succ, List.getElem?_cons_zero]
          repeat (go_big_quiet_step (fail))
          refine wpQuiet_nil ?_
          clear d0 d1 d2 d3 hq q
          refine seg_op (by simp only [List.getElem?_toArray, List.getElem?_cons_succ, List.getElem?_cons_zero]; rfl) fun K hK => ?_
          go_simp
          refine hK.out _ _ (seg_keep zv2 ?_)
          clear hK K
          intro q hq
          have d0 := fun z => cellz (j := 0) (hq z) r0 rfl
          have d1 := fun z => cellz (j := 1) (hq z) r0 rfl
          have d2 := fun z => cellz (j := 0) (hq z) r1 rfl
          have d3 := fun z => cellz (j := 1) (hq z) r1 rfl
          simp only [pickI, Option.toList_some, List.cons_append, List.nil_append, List.getElem?_toArray, List.getElem?_cons_succ, List.getElem?_cons_zero]
          repeat (go_big_quiet_step (fail))
          refine wpQuiet_nil ?_
          clear d0 d1 d2 d3 hq q
          refine seg_op (by simp only [List.getElem?_toArray, List.getElem?_cons_succ, List.getElem?_cons_zero]; rfl) fun K hK => ?_
          go_simp
          refine (hM1 _).mono ?_
          rintro e v4 ⟨rfl, bv4⟩
          have zv4 := zv2.trans (bv4.mono zv2.size)
          refine hK.out _ _ (seg_keep zv4 ?_)
          clear hK K
          intro q hq
          refine wpQuiet_nil ?_
          clear hq q
          refine seg_op (by simp only [List.getElem?_toArray, List.getElem?_cons_succ, List.getElem?_cons_zero]; rfl) fun K hK => ?_
          go_simp
          refine (hM2 _).mono ?_
          rintro e v5 ⟨rfl, bv5⟩
          have zv5 := zv4.trans (bv5.mono zv4.size)
          refine hK.out _ _ (seg_keep zv5 ?_)
          clear hK K
          intro q hq
          have d0 := fun z => cellz (j := 0) (hq z) r0 rfl
          have d1 := fun z => cellz (j := 1) (hq z) r0 rfl
          have d2 := fun z => cellz (j := 0) (hq z) r1 rfl
          have d3 := fun z => cellz (j := 1) (hq z) r1 rfl
          simp only [pickI, Option.toList_some, List.cons_append, List.nil_append, List.getElem?_toArray, List.getElem?_cons_succ, List.getElem?_cons_zero]
          repeat (go_big_quiet_step (fail))
          refine wpQuiet_nil ?_
          clear d0 d1 d2 d3 hq q
          refine seg_op (by simp only [List.getElem?_toArray, List.getElem?_cons_succ, List.getElem?_cons_zero]; rfl) fun K hK => ?_
          go_simp
          refine (hC1 _).mono ?_
          rintro e v6 ⟨rfl, bv6⟩
          have zv6 := zv5.trans (bv6.mono zv5.size)
          refine hK.out _ _ (seg_keep zv6 ?_)
          clear hK K
          intro q hq
          refine wpQuiet_nil ?_
          clear hq q
          refine seg_op (by simp only [List.getElem?_toArray, List.getElem?_cons_succ, List.getElem?_cons_zero]; rfl) fun K hK => ?_
          go_simp
          refine (hC2 _).mono ?_
          rintro e v7 ⟨rfl, bv7⟩
          have zv7 := zv6.trans (bv7.mono zv6.size)
          refine hK.out _ _ (seg_keep zv7 ?_)
          clear hK K
          intro q hq
          have d0 := fun z => cellz (j := 0) (hq z) r0 rfl
          have d1 := fun z => cellz (j := 1) (hq z) r0 rfl
          have d2 := fun z => cellz (j := 0) (hq z) r1 rfl
          have d3 := fun z => cellz (j := 1) (hq z) r1 rfl
          simp only [pickI, Option.toList_some, List.cons_append, List.nil_append, List.getElem?_toArray, List.getElem?_cons_succ, List.getElem?_cons_zero]
          repeat (go_big_quiet_step (fail))
          refine wpQuiet_nil ?_
          clear d0 d1 d2 d3 hq q
          refine seg_op (by simp only [List.getElem?_toArray, List.getElem?_cons_succ, List.getElem?_cons_zero]; rfl) fun K hK => ?_
          go_simp
          refine (lives3 _).mono ?_
          rintro e v8 ⟨rfl, bv8⟩
          have zv8 := zv7.trans (bv8.mono zv7.size)
          refine hK.out _ _ (seg_keep zv8 ?_)
          clear hK K
          intro q hq
          have d0 := fun z => cellz (j := 0) (hq z) r0 rfl
          have d1 := fun z => cellz (j := 1) (hq z) r0 rfl
          have d2 := fun z => cellz (j := 0) (hq z) r1 rfl
          have d3 := fun z => cellz (j := 1) (hq z) r1 rfl
          simp only [pickI, Option.toList_some, List.cons_append, List.nil_append, List.getElem?_toArray, List.getElem?_cons_succ, List.getElem?_cons_zero]
          repeat (go_big_quiet_step (fail))
          refine wpQuiet_nil ?_
          clear d0 d1 d2 d3 hq q
          have hfin := zv8
          go_wp2
          go_ret
          exact ⟨rfl, hbw.out.trans (hfin.mono hbw.out.size)⟩
      · cases B
        · have hC2' : C = true := hC
          subst hC2'
          clear hC
          go_wp2_with (first
            | (go_at_call 9; (with_reducible refine (hC1 _).mono ?_); rintro e w5 ⟨rfl, hb5⟩)
            | (go_at_call 6; (with_reducible refine (hCH _).mono ?_); rintro e w6 ⟨rfl, hb6⟩)
            | fail)
          have h56 := hb5.trans (hb6.mono hb5.size)
          have r0 := (h56.block _ (by omega)).trans r0
          have r1 := (h56.block _ (by omega)).trans r1
          have hbw := Lib.hid (hwr.out.trans (h56.mono hwr.out.size))
          clear hb5 hb6 h56 k0 k1 k2 k3
          have hzz := hbw.out.size
          generalize w6 = Z at *
          have hZ : w.heap.size + 1 < Z.heap.size := (Array.getElem?_eq_some_iff.1 r1).1
          refine wp_low Z.heap.size [([0, 1, 2], 3), ([4, 5, 6], 7), ([8, 9, 10, 11, 12, 13], 14), ([15, 16, 17], 18), ([19, 20, 21, 22, 23, 24, 25, 27, 28], 26), ([], 29), ([30, 31, 32, 33, 34, 36, 37], 35), ([], 38), ([39, 40, 41], 42)] [43, 44] (by kernel_rfl) (by kernel_rfl) (fun d _ _ _ _ h => by cases d <;> exact h) (Nat.le_refl _) fun wd hbd => ?_
          intro q hq
          have d0 := fun z => cellz (j := 0) (hq z) r0 rfl
          have d1 := fun z => cellz (j := 1) (hq z) r0 rfl
          have d2 := fun z => cellz (j := 0) (hq z) r1 rfl
          have d3 := fun z => cellz (j := 1) (hq z) r1 rfl
          simp only [pickI, Option.toList_some, List.cons_append, List.nil_append, List.getElem?_toArray, List.getElem?_cons_succ, List.getElem?_cons_zero]
          repeat (go_big_quiet_step (fail))
          refine wpQuiet_nil ?_
          clear d0 d1 d2 d3 hq q
          refine seg_op (by simp only [List.getElem?_toArray, List.getElem?_cons_succ, List.getElem?_cons_zero]; rfl) fun K hK => ?_
          go_simp
          refine (hA _).mono ?_
          rintro e v0 ⟨rfl, bv0⟩
          have zv0 := hbd.trans (bv0.mono hbd.size)
          refine hK.out _ _ (seg_keep zv0 ?_)
          clear hK K
          intro q hq
          have d0 := fun z => cellz (j := 0) (hq z) r0 rfl
          have d1 := fun z => cellz (j := 1) (hq z) r0 rfl
          have d2 := fun z => cellz (j := 0) (hq z) r1 rfl
          have d3 := fun z => cellz (j := 1) (hq z) r1 rfl
          simp only [pickI, Option.toList_some, List.cons_append, List.nil_append, List.getElem?_toArray, List.getElem?_cons_succ, List.getElem?_cons_zero]
          repeat (go_big_quiet_step (fail))
          refine wpQuiet_nil ?_
          clear d0 d1 d2 d3 hq q
          refine seg_op (by simp only [List.getElem?_toArray, List.getElem?_cons_succ, List.getElem?_cons_zero]; rfl) fun K hK => ?_
          go_simp
          refine (hB _).mono ?_
          rintro e v1 ⟨rfl, bv1⟩
          have zv1 := zv0.trans (bv1.mono zv0.size)
          refine hK.out _ _ (seg_keep zv1 ?_)
          clear hK K
          intro q hq
          have d0 := fun z => cellz (j := 0) (hq z) r0 rfl
          have d1 := fun z => cellz (j := 1) (hq z) r0 rfl
          have d2 := fun z => cellz (j := 0) (hq z) r1 rfl
          have d3 := fun z => cellz (j := 1) (hq z) r1 rfl
          simp only [pickI, Option.toList_some, List.cons_append, List.nil_append, List.getElem?_toArray, List.getElem?_cons_succ, List.getElem?_cons_zero]
          repeat (go_big_quiet_step (fail))
          refine wpQuiet_nil ?_
          clear d0 d1 d2 d3 hq q
          refine seg_op (by simp only [List.getElem?_toArray, List.getElem?_cons_succ, List.getElem?_cons_zero]; rfl) fun K hK => ?_
          go_simp
          refine (hA _).mono ?_
          rintro e v2 ⟨rfl, bv2⟩
          have zv2 := zv1.trans (bv2.mono zv1.size)
          refine hK.out _ _ (seg_keep zv2 ?_)
          clear hK K
          intro q hq
          have d0 := fun z => cellz (j := 0) (hq z) r0 rfl
          have d1 := fun z => cellz (j := 1) (hq z) r0 rfl
          have d2 := fun z => cellz (j := 0) (hq z) r1 rfl
          have d3 := fun z => cellz (j := 1) (hq z) r1 rfl
          simp only [pickI, Option.toList_some, List.cons_append, List.nil_append, List.getElem?_toArray, List.getElem?_cons_succ, List.getElem?_cons_zero]
          repeat (go_big_quiet_step (fail))
          refine wpQuiet_nil ?_
          clear d0 d1 d2 d3 hq q
          refine seg_op (by simp only [List.getElem?_toArray, List.getElem?_cons_succ, List.getElem?_cons_zero]; rfl) fun K hK => ?_
          go_simp
          refine (hB _).mono ?_
          rintro e v3 ⟨rfl, bv3⟩
          have zv3 := zv2.trans (bv3.mono zv2.size)
          refine hK.out _ _ (seg_keep zv3 ?_)
          clear hK K
          intro q hq
          have d0 := fun z => cellz (j := 0) (hq z) r0 rfl
          have d1 := fun z => cellz (j := 1) (hq z) r0 rfl
          have d2 := fun z => cellz (j := 0) (hq z) r1 rfl
          have d3 := fun z => cellz (j := 1) (hq z) r1 rfl
          simp only [pickI, Option.toList_some, List.cons_append, List.nil_append, List.getElem?_toArray, List.getElem?_cons_succ, List.getElem?_cons_zero]
          repeat (go_big_quiet_step (fail))
          refine wpQuiet_nil ?_
          clear d0 d1 d2 d3 hq q
          refine seg_op (by simp only [List.getElem?_toArray, List.getElem?_cons_succ, List.getElem?_cons_zero]; rfl) fun K hK => ?_
          go_simp
          refine (hM1 _).mono ?_
          rintro e v4 ⟨rfl, bv4⟩
          have zv4 := zv3.trans (bv4.mono zv3.size)
          refine hK.out _ _ (seg_keep zv4 ?_)
          clear hK K
          intro q hq
          refine wpQuiet_nil ?_
          clear hq q
          refine seg_op (by simp only [List.getElem?_toArray, List.getElem?_cons_succ, List.getElem?_cons_zero]; rfl) fun K hK => ?_
          go_simp
          refine (hM2 _).mono ?_
          rintro e v5 ⟨rfl, bv5⟩
          have zv5 := zv4.trans (bv5.mono zv4.size)
          refine hK.out _ _ (seg_keep zv5 ?_)
          clear hK K
          intro q hq
          have d0 := fun z => cellz (j := 0) (hq z) r0 rfl
          have d1 := fun z => cellz (j := 1) (hq z) r0 rfl
          have d2 := fun z => cellz (j := 0) (hq z) r1 rfl
          have d3 := fun z => cellz (j := 1) (hq z) r1 rfl
          simp only [pickI, Option.toList_some, List.cons_append, List.nil_append, List.getElem?_toArray, List.getElem?_cons_succ, List.getElem?_cons_zero]
          repeat (go_big_quiet_step (fail))
          refine wpQuiet_nil ?_
          clear d0 d1 d2 d3 hq q
          refine seg_op (by simp only [List.getElem?_toArray, List.getElem?_cons_succ, List.getElem?_cons_zero]; rfl) fun K hK => ?_
          go_simp
          refine (hC1 _).mono ?_
          rintro e v6 ⟨rfl, bv6⟩
          have zv6 := zv5.trans (bv6.mono zv5.size)
          refine hK.out _ _ (seg_keep zv6 ?_)
          clear hK K
          intro q hq
          refine wpQuiet_nil ?_
          clear hq q
          refine seg_op (by simp only [List.getElem?_toArray, List.getElem?_cons_succ, List.getElem?_cons_zero]; rfl) fun K hK => ?_
          go_simp
          refine (hC2 _).mono ?_
          rintro e v7 ⟨rfl, bv7⟩
          have zv7 := zv6.trans (bv7.mono zv6.size)
          refine hK.out _ _ (seg_keep zv7 ?_)
          clear hK K
          intro q hq
          have d0 := fun z => cellz (j := 0) (hq z) r0 rfl
          have d1 := fun z => cellz (j := 1) (hq z) r0 rfl
          have d2 := fun z => cellz (j := 0) (hq z) r1 rfl
          have d3 := fun z => cellz (j := 1) (hq z) r1 rfl
          simp only [pickI, Option.toList_some, List.cons_append, List.nil_append, List.getElem?_toArray, List.getElem?_cons_succ, List.getElem?_cons_zero]
          repeat (go_big_quiet_step (fail))
          refine wpQuiet_nil ?_
          clear d0 d1 d2 d3 hq q
          refine seg_op (by simp only [List.getElem?_toArray, List.getElem?_cons_succ, List.getElem?_cons_zero]; rfl) fun K hK => ?_
          go_simp
          refine (lives3 _).mono ?_
          rintro e v8 ⟨rfl, bv8⟩
          have zv8 := zv7.trans (bv8.mono zv7.size)
          refine hK.out _ _ (seg_keep zv8 ?_)
          clear hK K
          intro q hq
          have d0 := fun z => cellz (j := 0) (hq z) r0 rfl
          have d1 := fun z => cellz (j := 1) (hq z) r0 rfl
          have d2 := fun z => cellz (j := 0) (hq z) r1 rfl
          have d3 := fun z => cellz (j := 1) (hq z) r1 rfl
          simp only [pickI, Option.toList_some, List.cons_append, List.nil_append, List.getElem?_toArray, List.getElem?_cons_succ, List.getElem?_cons_zero]
          repeat (go_big_quiet_step (fail))
          refine wpQuiet_nil ?_
          clear d0 d1 d2 d3 hq q
          have hfin := zv8
          go_wp2
          go_ret
          exact ⟨rfl, hbw.out.trans (hfin.mono hbw.out.size)⟩
        · have hC2' : C = false := hC
          subst hC2'
          clear hC
          go_wp2_with (first
            | (go_at_call 9; (with_reducible refine (hC1 _).mono ?_); rintro e w5 ⟨rfl, hb5⟩)
            | (go_at_call 6; (with_reducible refine (hCH _).mono ?_); rintro e w6 ⟨rfl, hb6⟩)
            | fail)
          have h56 := hb5.trans (hb6.mono hb5.size)
          have r0 := (h56.block _ (by omega)).trans r0
          have r1 := (h56.block _ (by omega)).trans r1
          have hbw := Lib.hid (hwr.out.trans (h56.mono hwr.out.size))
          clear hb5 hb6 h56 k0 k1 k2 k3
          have hzz := hbw.out.size
          generalize w6 = Z at *
          have hZ : w.heap.size + 1 < Z.heap.size := (Array.getElem?_eq_some_iff.1 r1).1
          refine wp_low Z.heap.size [([0, 1, 2], 3), ([4, 5, 6], 7), ([8, 9, 10, 11, 12, 13], 14), ([15, 16, 17], 18), ([19, 20, 21, 22, 23, 24, 25, 27, 28], 26), ([], 29), ([30, 31, 32, 33, 34, 36, 37], 35), ([], 38), ([39, 40, 41], 42)] [43, 44] (by kernel_rfl) (by kernel_rfl) (fun d _ _ _ _ h => by cases d <;> exact h) (Nat.le_refl _) fun wd hbd => ?_
          intro q hq
          have d0 := fun z => cellz (j := 0) (hq z) r0 rfl
          have d1 := fun z => cellz (j := 1) (hq z) r0 rfl
          have d2 := fun z => cellz (j := 0) (hq z) r1 rfl
          have d3 := fun z => cellz (j := 1) (hq z) r1 rfl
          simp only [pickI, Option.toList_some, List.cons_append, List.nil_append, List.getElem?_toArray, List.getElem?_cons_succ, List.getElem?_cons_zero]
          repeat (go_big_quiet_step (fail))
          refine wpQuiet_nil ?_
          clear d0 d1 d2 d3 hq q
          refine seg_op (by simp only [List.getElem?_toArray, List.getElem?_cons_succ, List.getElem?_cons_zero]; rfl) fun K hK => ?_
          go_simp
          refine (hA _).mono ?_
          rintro e v0 ⟨rfl, bv0⟩
          have zv0 := hbd.trans (bv0.mono hbd.size)
          refine hK.out _ _ (seg_keep zv0 ?_)
          clear hK K
          intro q hq
          have d0 := fun z => cellz (j := 0) (hq z) r0 rfl
          have d1 := fun z => cellz (j := 1) (hq z) r0 rfl
          have d2 := fun z => cellz (j := 0) (hq z) r1 rfl
          have d3 := fun z => cellz (j := 1) (hq z) r1 rfl
          simp only [pickI, Option.toList_some, List.cons_append, List.nil_append, List.getElem?_toArray, List.getElem?_cons_succ, List.getElem?_cons_zero]
          repeat (go_big_quiet_step (fail))
          refine wpQuiet_nil ?_
          clear d0 d1 d2 d3 hq q
          refine seg_op (by simp only [List.getElem?_toArray, List.getElem?_cons_succ, List.getElem?_cons_zero]; rfl) fun K hK => ?_
          go_simp
          refine (hB _).mono ?_
          rintro e v1 ⟨rfl, bv1⟩
          have zv1 := zv0.trans (bv1.mono zv0.size)
          refine hK.out _ _ (seg_keep zv1 ?_)
          clear hK K
          intro q hq
          have d0 := fun z => cellz (j := 0) (hq z) r0 rfl
          have d1 := fun z => cellz (j := 1) (hq z) r0 rfl
          have d2 := fun z => cellz (j := 0) (hq z) r1 rfl
          have d3 := fun z => cellz (j := 1) (hq z) r1 rfl
          simp only [pickI, Option.toList_some, List.cons_append, List.nil_append, List.getElem?_toArray, List.getElem?_cons_succ, List.getElem?_cons_zero]
          repeat (go_big_quiet_step (fail))
          refine wpQuiet_nil ?_
          clear d0 d1 d2 d3 hq q
          refine seg_op (by simp only [List.getElem?_toArray, List.getElem?_cons_succ, List.getElem?_cons_zero]; rfl) fun K hK => ?_
          go_simp
          refine (hA _).mono ?_
          rintro e v2 ⟨rfl, bv2⟩
          have zv2 := zv1.trans (bv2.mono zv1.size)
          refine hK.out _ _ (seg_keep zv2 ?_)
          clear hK K
          intro q hq
          have d0 := fun z => cellz (j := 0) (hq z) r0 rfl
          have d1 := fun z => cellz (j := 1) (hq z) r0 rfl
          have d2 := fun z => cellz (j := 0) (hq z) r1 rfl
          have d3 := fun z => cellz (j := 1) (hq z) r1 rfl
          simp only [pickI, Option.toList_some, List.cons_append, List.nil_append, List.getElem?_toArray, List.getElem?_cons_succ, List.getElem?_cons_zero]
          repeat (go_big_quiet_step (fail))
          refine wpQuiet_nil ?_
          clear d0 d1 d2 d3 hq q
          refine seg_op (by simp only [List.getElem?_toArray, List.getElem?_cons_succ, List.getElem?_cons_zero]; rfl) fun K hK => ?_
          go_simp
          refine (hB _).mono ?_
          rintro e v3 ⟨rfl, bv3⟩
          have zv3 := zv2.trans (bv3.mono zv2.size)
          refine hK.out _ _ (seg_keep zv3 ?_)
          clear hK K
          intro q hq
          have d0 := fun z => cellz (j := 0) (hq z) r0 rfl
          have d1 := fun z => cellz (j := 1) (hq z) r0 rfl
          have d2 := fun z => cellz (j := 0) (hq z) r1 rfl
          have d3 := fun z => cellz (j := 1) (hq z) r1 rfl
          simp only [pickI, Option.toList_some, List.cons_append, List.nil_append, List.getElem?_toArray, List.getElem?_cons_succ, List.getElem?_cons_zero]
          repeat (go_big_quiet_step (fail))
          refine wpQuiet_nil ?_
          clear d0 d1 d2 d3 hq q
          refine seg_op (by simp only [List.getElem?_toArray, List.getElem?_cons_succ, List.getElem?_cons_zero]; rfl) fun K hK => ?_
          go_simp
          refine (hM1 _).mono ?_
          rintro e v4 ⟨rfl, bv4⟩
          have zv4 := zv3.trans (bv4.mono zv3.size)
          refine hK.out _ _ (seg_keep zv4 ?_)
          clear hK K
          intro q hq
          refine wpQuiet_nil ?_
          clear hq q
          refine seg_op (by simp only [List.getElem?_toArray, List.getElem?_cons_succ, List.getElem?_cons_zero]; rfl) fun K hK => ?_
          go_simp
          refine (hM2 _).mono ?_
          rintro e v5 ⟨rfl, bv5⟩
          have zv5 := zv4.trans (bv5.mono zv4.size)
          refine hK.out _ _ (seg_keep zv5 ?_)
          clear hK K
          intro q hq
          have d0 := fun z => cellz (j := 0) (hq z) r0 rfl
          have d1 := fun z => cellz (j := 1) (hq z) r0 rfl
          have d2 := fun z => cellz (j := 0) (hq z) r1 rfl
          have d3 := fun z => cellz (j := 1) (hq z) r1 rfl
          simp only [pickI, Option.toList_some, List.cons_append, List.nil_append, List.getElem?_toArray, List.getElem?_cons_succ, List.getElem?_cons_zero]
          repeat (go_big_quiet_step (fail))
          refine wpQuiet_nil ?_
          clear d0 d1 d2 d3 hq q
          refine seg_op (by simp only [List.getElem?_toArray, List.getElem?_cons_succ, List.getElem?_cons_zero]; rfl) fun K hK => ?_
          go_simp
          refine (hC1 _).mono ?_
          rintro e v6 ⟨rfl, bv6⟩
          have zv6 := zv5.trans (bv6.mono zv5.size)
          refine hK.out _ _ (seg_keep zv6 ?_)
          clear hK K
          intro q hq
          refine wpQuiet_nil ?_
          clear hq q
          refine seg_op (by simp only [List.getElem?_toArray, List.getElem?_cons_succ, List.getElem?_cons_zero]; rfl) fun K hK => ?_
          go_simp
          refine (hC2 _).mono ?_
          rintro e v7 ⟨rfl, bv7⟩
          have zv7 := zv6.trans (bv7.mono zv6.size)
          refine hK.out _ _ (seg_keep zv7 ?_)
          clear hK K
          intro q hq
          have d0 := fun z => cellz (j := 0) (hq z) r0 rfl
          have d1 := fun z => cellz (j := 1) (hq z) r0 rfl
          have d2 := fun z => cellz (j := 0) (hq z) r1 rfl
          have d3 := fun z => cellz (j := 1) (hq z) r1 rfl
          simp only [pickI, Option.toList_some, List.cons_append, List.nil_append, List.getElem?_toArray, List.getElem?_cons_succ, List.getElem?_cons_zero]
          repeat (go_big_quiet_step (fail))
          refine wpQuiet_nil ?_
          clear d0 d1 d2 d3 hq q
          refine seg_op (by simp only [List.getElem?_toArray, List.getElem?_cons_succ, List.getElem?_cons_zero]; rfl) fun K hK => ?_
          go_simp
          refine (lives3 _).mono ?_
          rintro e v8 ⟨rfl, bv8⟩
          have zv8 := zv7.trans (bv8.mono zv7.size)
          refine hK.out _ _ (seg_keep zv8 ?_)
          clear hK K
          intro q hq
          have d0 := fun z => cellz (j := 0) (hq z) r0 rfl
          have d1 := fun z => cellz (j := 1) (hq z) r0 rfl
          have d2 := fun z => cellz (j := 0) (hq z) r1 rfl
          have d3 := fun z => cellz (j := 1) (hq z) r1 rfl
          simp only [pickI, Option.toList_some, List.cons_append, List.nil_append, List.getElem?_toArray, List.getElem?_cons_succ, List.getElem?_cons_zero]
          repeat (go_big_quiet_step (fail))
          refine wpQuiet_nil ?_
          clear d0 d1 d2 d3 hq q
          have hfin := zv8
          go_wp2
          go_ret
          exact ⟨rfl, hbw.out.trans (hfin.mono hbw.out.size)⟩

theorem wf_u32 {x : Int} (h : (Lit.int .u32 x).wf = true) : ∃ n : Nat, x = (n : Int) ∧ n < 4294967296 := by
  simp [Lit.wf, IntKind.min, IntKind.max, IntKind.signed, IntKind.bits] at h
  exact ⟨x.toNat, by omega, by omega⟩
theorem spanParts_top {w : World} (x0 y0 : Int) (h0 : (Lit.int .u32 x0).wf = true) (g0 : (Lit.int .u32 y0).wf = true) (x1 y1 : Int) (h1 : (Lit.int .u32 x1).wf = true) (g1 : (Lit.int .u32 y1).wf = true) (x2 : Int) (h2 : (Lit.int .u32 x2).wf = true) :
    Calls Try.prog 4 #[.agg #[.int .u32 x0, .int .u32 y0], .agg #[.int .u32 x1, .int .u32 y1], .int .u32 x2] w fun e w' => e = .returned (.bool true) ∧ Below w.heap.size w w' := by
  obtain ⟨a, rfl, ha⟩ := wf_u32 h0
  obtain ⟨b, rfl, hb⟩ := wf_u32 g0
  obtain ⟨c, rfl, hc⟩ := wf_u32 h1
  obtain ⟨d, rfl, hd⟩ := wf_u32 g1
  obtain ⟨x, rfl, hx⟩ := wf_u32 h2
  exact spanParts_walk a b c d x w ha hb hc hd hx

namespace spanParts
open Go.ChangeShapes Go.WideShapes Go.ChangeAt
set_option maxRecDepth 100000 in
theorem lifted (os : Os) (started : os.Started) (H : Type) (enc : TypeId × Value → H) :
    ReturnsInHanded {} Try.checked os 4 .any (Rows.spanPartsSpec.pre6 enc Try.prog Try.f4 Rows.spanPartsRow.domain false) (Rows.spanPartsSpec.post enc Try.prog Try.f4 false true false false) := by
  refine returnsInHanded_of_change (C := Try.checked) own started (by kernel_rfl) Try.func4
    (ChangeSpec.witness6 (enc := enc) (C := Try.checked) false ⟨#[], #[.agg #[.int .u32 0, .int .u32 0], .agg #[.int .u32 0, .int .u32 0], .int .u32 0], []⟩ 8 (by kernel_rfl) (by kernel_rfl) (by kernel_rfl) (by kernel_rfl)) ?_
  intro W base args ds gs before hval0 hW _ _
  have hval : ∀ (j : Nat) t v, Try.f4.params[j]? = some t → args[j]? = some v → Value.okWide Try.prog W .any base t v := hval0
  have hW' := hW
  obtain ⟨p, q, hA0, hV, rfl, hfz, hnd⟩ := hW
  have hA : DataW.TrodAll enc Try.prog W 0 (fun _ => true) true Try.f4.params.toList args.toList ds p := hA0
  rw [Try.params4] at hA hval
  obtain ⟨v0, vs0, d0, ds0, p0, q0, hargs, rfl, rfl, h0, r0⟩ := trodAll_cons hA
  obtain ⟨v1, vs1, d1, ds1, p1, q1, rfl, rfl, rfl, h1, r1⟩ := trodAll_cons r0
  obtain ⟨v2, vs2, d2, ds2, p2, q2, rfl, rfl, rfl, h2, r2⟩ := trodAll_cons r1
  obtain ⟨rfl, rfl, rfl⟩ := trodAll_nil r2
  obtain rfl : args = #[v0, v1, v2] := by cases args; simp_all
  obtain ⟨rfl, rfl⟩ := trodVars_none hV
  have k0 := h0
  have lt0 : ∀ x ∈ p0, x.block < W.heap.size := by obtain ⟨m, hm⟩ := k0; exact DataW.trod_lt m _ _ _ hm
  obtain ⟨x0, y0, rfl, w0, u0⟩ := dec_ints2 Try.underlying24 (by kernel_rfl) (by kernel_rfl) Try.underlying22 Try.underlying22 (hval 0 24 v0 rfl rfl) h0
  have k1 := h1
  have lt1 : ∀ x ∈ p1, x.block < W.heap.size := by obtain ⟨m, hm⟩ := k1; exact DataW.trod_lt m _ _ _ hm
  obtain ⟨x1, y1, rfl, w1, u1⟩ := dec_ints2 Try.underlying24 (by kernel_rfl) (by kernel_rfl) Try.underlying22 Try.underlying22 (hval 1 24 v1 rfl rfl) h1
  have k2 := h2
  have lt2 : ∀ x ∈ p2, x.block < W.heap.size := by obtain ⟨m, hm⟩ := k2; exact DataW.trod_lt m _ _ _ hm
  obtain ⟨x2, rfl, w2⟩ := dec_int Try.underlying22 (hval 2 22 v2 rfl rfl) h2
  clear hA0 hval0
  refine (spanParts_top x0 y0 w0 u0 x1 y1 w1 u1 x2 w2).mono fun e W' ⟨he, bel⟩ => ?_
  subst he
  exact ⟨_, rfl, _, _, _, [], _, [], hW', trodAll_mk1 (shut_bool Try.underlying4 _), (trodAll_cons_mk (Below.trod laidOut (by kernel_rfl) (of_decide_eq_true (by kernel_rfl)) k0 bel lt0) (trodAll_cons_mk (Below.trod laidOut (by kernel_rfl) (of_decide_eq_true (by kernel_rfl)) k1 bel lt1) (trodAll_cons_mk (Below.trod laidOut (by kernel_rfl) (of_decide_eq_true (by kernel_rfl)) k2 bel lt2) trodAll_mk0))), rfl, bel.frame _, fun h => by cases h⟩

theorem over : Rows.spanPartsRow.holds Try.pinned (OpenSpec.ofChange Rows.spanPartsSpec) :=
  OpenClaim.holds_of_wide 4 Try.f4 rfl rfl rfl rfl rfl rfl rfl ⟨rfl, rfl, rfl, rfl, rfl⟩ rfl rfl rfl rfl rfl (by kernel_rfl) Try.func4 (by kernel_rfl)
    (of_decide_eq_true (by kernel_rfl)) (by unfold Func.isWrapper; first | (rw [if_pos (by decide +kernel)]; kernel_rfl) | (rw [if_neg (by decide +kernel)]; exact ⟨rfl, rfl⟩))
    (fun os started H enc _ => lifted os started H enc)
/-- The given statement. -/
theorem proved : Rows.SpanPartsSaid := over
end spanParts

end Go.Proofs.Ytijkagfppeeegaa

/- The contract of Join, of one span and of two. -/
import Derived.Test.YtijkagfppeeegaaJoin
namespace Go.Proofs.Ytijkagfppeeegaa
open Go.RowKit

/-- What is known in each round. -/
def JRel (w w1 wr : World) (R : List (Nat × Nat)) (i : Nat) (v : Value) (s : List (Nat × Nat) × Nat × Nat) : Prop :=
  s = jst (R.take i) ∧ s.2.1 < 4294967296 ∧ s.2.2 < 8589934592 ∧ s.1.length ≤ i ∧ wr.ownsRow w1.heap.size 24 2 v s.1.length (sps s.1) ∧ wr.heap[w.heap.size]? = some (.cells #[.int .u64 (s.2.1 : Int), .int .u64 (s.2.2 : Int)] 46 (0, 0)) ∧ w1.grownBy wr (some w.heap.size)

set_option maxHeartbeats 1000000 in
theorem join_any (A : Option Addr) (n c : Nat) (R : List (Nat × Nat)) (w : World) (hn : n = 1 ∨ n = 2) (hR : R.length = n) (hf : Fits R) (hr : ∀ W, Below w.heap.size w W → Rises A n c R W) :
    Calls Try.prog 21 #[.slice A n c] w fun e w' => ∃ v', e = .returned v' ∧ w'.ownsRow w.heap.size 24 2 v' (jn R).length (sps (jn R)) ∧ Below w.heap.size w w' := by
  have HR := Lib.hid hR
  have HF := Lib.hid hf
  clear hR hf
  go_enter Try.func21, Try.ntmps21
  go_wp2_with fail
  refine (hr _ ((Below.refl _ _).alloc (Nat.le_refl _) _)).mono ?_
  rintro e w1 ⟨g, cap, rfl, hown, hb1⟩
  have hg := hown.lt g rfl
  have hsz : (w.alloc (.cells #[.int .u64 0, .int .u64 0] 46)).heap.size = w.heap.size + 1 := by simp
  rw [hsz] at hg
  have hrow : w1.heap[w.heap.size]? = some (.cells #[.int .u64 0, .int .u64 0] 46 (0, 0)) := (hb1.block _ (by simp)).trans (heap_alloc_new w _)
  have hbw : Below w.heap.size w w1 := unal hb1
  have hnc : n ≤ cap ∧ cap ≤ maxLen := by
    obtain ⟨g', cap', hv, _, _, h1, h2⟩ := owns_some hown (by omega)
    cases hv
    exact ⟨h1, h2⟩
  have HO := Lib.hid hown
  have HB := Lib.hid hb1
  have HROW := Lib.hid hrow
  clear hown hrow hr hb1
  go_wp2
  go_loopw [3, 11] (fun vr ir wr => ∃ (i : Nat) (s : List (Nat × Nat) × Nat × Nat), i ≤ n ∧ ir = .int .i64 i ∧ Hid (JRel w w1 wr R i vr s)) (fun _ ir _ => n - (intOf ir).toNat)
  case atStart => exact ⟨0, ([], 0, 0), Nat.zero_le _, rfl, Lib.hid ⟨rfl, by decide, by decide, Nat.le_refl _, World.ownsRow_nil _ _ _ _, HROW.out, World.grownBy.refl _ _⟩⟩
  case round =>
    obtain ⟨i, s, hi, rfl, HJ⟩ := hrel
    obtain ⟨hs, hx, hy, hl, ho, hop, hgr⟩ := HJ.out
    obtain ⟨L, x, y⟩ := s
    simp only at hs hx hy hl ho hop hgr
    by_cases hlt : i < n
    · obtain ⟨p, hp⟩ : ∃ p, R[i]? = some p := ⟨R[i]'(by rw [HR.out]; exact hlt), List.getElem?_eq_getElem _⟩
      have hpf := HF.out p (List.mem_of_getElem? hp)
      have hsn : jst (R.take (i + 1)) = jstep (L, x, y) p := by
        obtain ⟨hi', rfl⟩ := List.getElem?_eq_some_iff.1 hp
        rw [List.take_succ_eq_append_getElem hi', jst_snoc, ← hs]
      have hbd := jstep_bd (L, x, y) p hpf ⟨hx, hy⟩
      have hcp := sps_get R i p hp
      have hor := HO.out.kept hgr (.inr (by simp [Value.ownBlock]; omega))
      have c0 := (hor.cellAt (i * 2) (by omega)).trans hcp.1
      have c1 := (hor.cellAt (i * 2 + 1) (by omega)).trans hcp.2
      obtain ⟨f, k⟩ := p
      simp only at c0 c1 hpf
      have e0 := cell_of_row wr _ 0 _ _ _ hop
      have e1 := cell_of_row wr _ 1 _ _ _ hop
      have z0 := frozen_of_row wr _ 0 _ _ hop
      have z1 := frozen_of_row wr _ 1 _ _ hop
      simp at e0 e1
      have hwr : w.heap.size < wr.heap.size := (Array.getElem?_eq_some_iff.1 hop).1
      have HS := Lib.hid hs
      have HSN := Lib.hid hsn
      have HBD := Lib.hid hbd
      have HOR := Lib.hid ho
      have HOP := Lib.hid hop
      have HG := Lib.hid hgr
      clear hs hsn hbd hcp hor ho hop hgr hp HJ
      have hpf1 := hpf.1
      have hpf2 := hpf.2
      clear hpf
      by_cases hlt2 : y < f
      · go_wp2_with (first
          | (go_at_call 18; (with_reducible refine (runOf_any f k _ hpf1 hpf2).mono ?_); rintro e w2 ⟨rfl, hb2⟩
             have hb2' := unal hb2
             have hz2 := hb2'.size
             have e0' : ∀ o, (w2.alloc o).cell? ⟨w.heap.size, 0, none⟩ = some (.int .u64 (x : Int)) := fun o => cell_old o (kept hb2' e0 hwr)
             have e1' : ∀ o, (w2.alloc o).cell? ⟨w.heap.size, 1, none⟩ = some (.int .u64 (y : Int)) := fun o => cell_old o (kept hb2' e1 hwr)
             have HB2 := Lib.hid hb2'
             clear e0 e1 z0 z1 hb2 hb2' c0 c1)
          | (go_at_call 24; (with_reducible refine (told_any w1.heap.size _ L x y _ (Nat.le_of_lt (Nat.lt_of_lt_of_le hx (by decide))) (by omega) ((owns_below HOR.out HB2.out).alloc _) (by have := HG.out.size; simp; omega)).mono ?_); rintro e w3 ⟨v3, rfl, ho3, hx3⟩
             have nb : ∀ b, b < w1.heap.size ∨ wr.heap.size ≤ b → some b ≠ u3.ownBlock := fun b hb hk => by have := HOR.out.lt b hk.symm; omega
             have r1 := grown_row hx3.1 (row_old _ ((HB2.out.block _ hwr).trans HOP.out)) (nb _ (.inl (by omega)))
             have r2 := grown_row hx3.1 (row_here w2 _ rfl) (nb _ (.inr hz2))
             have e0 := cell_of_row w3 _ 0 _ _ _ r1
             have e1 := cell_of_row w3 _ 1 _ _ _ r1
             have n0 := cell_of_row w3 _ 0 _ _ _ r2
             have n1 := cell_of_row w3 _ 1 _ _ _ r2
             have z0 := frozen_of_row w3 _ 0 _ _ r1
             have z1 := frozen_of_row w3 _ 1 _ _ r1
             simp at e0 e1 n0 n1
             have hne : w2.heap.size ≠ w.heap.size := by omega
             have hne' : w.heap.size ≠ w2.heap.size := by omega
             have HR1 := Lib.hid r1
             have HO3 := Lib.hid ho3
             have HX3 := Lib.hid hx3
             clear nb r1 r2 ho3 hx3 e0' e1')
          | fail)
        go_roundw
        case rel =>
          have hj : jstep (L, x, y) (f, k) = (tol L x y, f, f + k) := by unfold jstep; rw [if_pos hlt2]
          have hb := HBD.out
          rw [hj] at hb
          refine ⟨i + 1, (tol L x y, f, f + k), by omega, by go_num, Lib.hid ⟨?_, hb.1, hb.2.1, Nat.le_trans hb.2.2 (by omega), ?_, ?_, ?_⟩⟩
          · rw [HSN.out, hj]
          · have hk : v3.ownBlock ≠ some w.heap.size := fun hk => by have := (HO3.out.lt _ hk).1; omega
            exact ownsRow_setCell_other (ownsRow_setCell_other (ownsRow_setCell_other HO3.out hk _) hk _) hk _
          · exact heap_setCell_same _ _ 1 _ _ _ (heap_setCell_same _ _ 1 _ _ _ (heap_setCell_same w3 _ 0 _ _ _ HR1.out))
          · have g2 := grownBy_trans HG.out (grow_of (HB2.out.alloc hz2 (.cells #[.int .u64 (f : Int), .int .u64 ((f : Int) + (k : Int))] 46))) (.inr fun _ e => by cases e)
            have g3 := grownBy_trans g2 HX3.out.1 (.inr fun b hk => (HOR.out.lt b hk).1)
            exact setCell_by (setCell_by (setCell_by g3 rfl _) rfl _) rfl _
        case measure => simp [intOf]; omega
      · obtain ⟨m, hm⟩ : ∃ m, m = max y (f + k) := ⟨_, rfl⟩
        have hm1 : (if (y : Int) < (f : Int) + (k : Int) then (f : Int) + (k : Int) else (y : Int)) = (m : Int) := by rw [hm]; split <;> omega
        have HM := Lib.hid hm
        clear hm
        go_wp2_with (first
          | (go_at_call 18; (with_reducible refine (runOf_any f k _ hpf1 hpf2).mono ?_); rintro e w2 ⟨rfl, hb2⟩
             have hb2' := unal hb2
             have hz2 := hb2'.size
             have e0' : ∀ o, (w2.alloc o).cell? ⟨w.heap.size, 0, none⟩ = some (.int .u64 (x : Int)) := fun o => cell_old o (kept hb2' e0 hwr)
             have e1' : ∀ o, (w2.alloc o).cell? ⟨w.heap.size, 1, none⟩ = some (.int .u64 (y : Int)) := fun o => cell_old o (kept hb2' e1 hwr)
             have z1' : ∀ cs, (w2.alloc (.cells cs 46)).frozen? ⟨w.heap.size, 1, none⟩ = false := fun cs => frozen_of_row _ _ 1 _ _ (row_old _ ((hb2'.block _ hwr).trans HOP.out))
             have HB2 := Lib.hid hb2'
             clear e0 e1 z0 z1 hb2 hb2' c0 c1)
          | fail)
        go_roundw
        case rel =>
          have hj : jstep (L, x, y) (f, k) = (L, x, m) := by unfold jstep; rw [if_neg hlt2, HM.out]
          have hb := HBD.out
          rw [hj] at hb
          refine ⟨i + 1, (L, x, m), by omega, by go_num, Lib.hid ⟨?_, hb.1, hb.2.1, Nat.le_trans hb.2.2 (by omega), ?_, ?_, ?_⟩⟩
          · rw [HSN.out, hj]
          · have hk : u3.ownBlock ≠ some w.heap.size := fun hk => by have := (HOR.out.lt _ hk).1; omega
            exact ownsRow_setCell_other ((owns_below HOR.out HB2.out).alloc _) hk _
          · exact heap_setCell_same _ _ 1 _ _ _ (row_old _ ((HB2.out.block _ hwr).trans HOP.out))
          · have g2 := grownBy_trans HG.out (grow_of (HB2.out.alloc hz2 (.cells #[.int .u64 (f : Int), .int .u64 ((f : Int) + (k : Int))] 46))) (.inr fun _ e => by cases e)
            exact setCell_by g2 rfl _
        case measure => simp [intOf]; omega
    · have hT : jst R = (L, x, y) := by rw [hs, List.take_of_length_le (by rw [HR.out]; omega)]
      have hjn : jn R = tol L x y := by unfold jn; rw [hT]
      have e0 := cell_of_row wr _ 0 _ _ _ hop
      have e1 := cell_of_row wr _ 1 _ _ _ hop
      simp at e0 e1
      have hsz1 := hgr.size
      have hsz0 := hbw.size
      have HOR := Lib.hid ho
      have HG := Lib.hid hgr
      have HJN := Lib.hid hjn
      clear hs hT hjn HJ hop ho hgr
      go_wp2_with (go_at_call 24; (with_reducible refine (told_any w1.heap.size _ L x y _ (Nat.le_of_lt (Nat.lt_of_lt_of_le hx (by decide))) (by omega) HOR.out hsz1).mono ?_); rintro e w3 ⟨v3, rfl, ho3, hx3⟩)
      go_ret
      refine ⟨v3, rfl, by rw [HJN.out]; exact ownsRow_low ho3 (by omega), ?_⟩
      have b1 : Below w.heap.size w wr := hbw.grown HG.out hsz0 (fun k hk => by cases hk; exact Nat.le_refl _)
      exact b1.grown hx3.1 b1.size (fun k hk => Nat.le_trans hsz0 (HOR.out.lt k hk).1)

end Go.Proofs.Ytijkagfppeeegaa

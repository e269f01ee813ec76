/- The reference's Write. -/
import Derived.Test.YtkcpldkdnnhmmaaRd
namespace Go.Proofs.Ytkcpldkdnnhmmaa
open Go.RowKit
set_option maxRecDepth 20000

set_option maxHeartbeats 2000000 in
theorem rwrite_any {w : World} {B g hg : Nat} {v : Value} {t : Dk} (h : Rg w B g hg v t) (hB : B ≤ w.heap.size) (c r i0 : Nat) (hi0 : i0 < 18446744073709551616) :
    Calls Try.prog 23 #[.pointer (some ⟨g, 0, none⟩), .int .u64 (c : Int), .int .u64 (r : Int), .int .u64 (i0 : Int)] w fun e w' => e = .returned (.int .i64 (t.wrE c r i0)) ∧ RMv w B g hg v (t.write c r i0) w' := by
  by_cases h0 : i0 = 0
  · have hE : t.wrE c r i0 = 2 ∧ t.write c r i0 = t := by unfold Dk.wrE Dk.write; rw [if_pos h0, if_pos h0]; exact ⟨rfl, rfl⟩
    rw [hE.1, hE.2]
    subst h0
    have HH := Lib.hid h
    clear h hE
    go_enter Try.func23, Try.ntmps23
    go_wp2
    go_ret
    exact ⟨rfl, RMv.same HH.out (Below.refl _ _)⟩
  · have HI0 := Lib.hid h0
    have d0 : decide ((i0 : Int) = 0) = false := by simp; omega
    have d1 : ¬ (i0 : Int) = 0 := by omega
    have d2 : ((i0 : Int) == 0) = false := by rw [beq_nat0]; simpa using h0
    have HH := Lib.hid h
    have HB := Lib.hid hB
    have HI := Lib.hid hi0
    have hroom := h.ok.room
    obtain ⟨A, cc, rfl⟩ := h.form
    have HFT := Lib.hid (fun j (hj : RFoot g hg (.slice A t.l.length cc) j) => (h.foot hj).2)
    clear h h0 hB hi0
    go_enter Try.func23, Try.ntmps23
    go_wp2_with (fail)
    go_loopw [9] (fun ir wr => ∃ i : Nat, i ≤ t.l.length ∧ ir = .int .i64 (i : Int) ∧ Hid ((t.l.take i).any (Wt.wr c r) = false) ∧ Hid (Below w.heap.size w wr)) (fun ir _ => t.l.length - (intOf ir).toNat)
    case atStart => exact ⟨0, Nat.zero_le _, rfl, Lib.hid rfl, Lib.hid (Below.refl _ _)⟩
    case round =>
      obtain ⟨i, hi, rfl, HN, HBl⟩ := hrel
      by_cases hlt : i < t.l.length
      · skip
        obtain ⟨y, hy⟩ : ∃ y, t.l[i]? = some y := ⟨_, List.getElem?_eq_getElem (by omega)⟩
        have hrd := ownsRow_rd (HH.out.below HBl.out).own
        obtain ⟨b, o, hA, hbb, hcc⟩ := hrd.2.2.2 (by omega)
        subst hA
        have hce := fun j u (hu : y.cells[j]? = some u) => hcc _ _ (wts_get t.l i y hy j u hu)
        have r0 := (HH.out.below HBl.out).c2
        have hlti : (i : Int) < (t.l.length : Int) := by omega
        have hii : (i : Int) ≤ 64 := by omega
        have hli : (t.l.length : Int) ≤ 64 := by omega
        have d5 : decide ((i : Int) < (t.l.length : Int)) = true := by simpa using hlti
        obtain ⟨cl, rq, ix, fr, ct, rd⟩ := y
        unfold Wt.cells at hce
        dsimp only at hce
        have k0 := hce 0 _ rfl
        have k1 := hce 1 _ rfl
        have k2 := hce 2 _ rfl
        have k3 := hce 3 _ rfl
        have k4 := hce 4 _ rfl
        have k5 := hce 5 _ rfl
        try dsimp only at k0 k1 k2 k3 k4 k5
        simp only [← Nat.add_assoc, Nat.add_zero] at k0 k1 k2 k3 k4 k5
        clear hce
        clear hrd hcc
        by_cases z0 : ix = 0
        · subst z0
          have hno : ((t.l.take (i + 1)).any (Wt.wr c r)) = false := by
            rw [List.take_add_one, hy, List.any_append, HN.out]
            simp only [Option.toList_some, List.any_cons, List.any_nil, Bool.or_false, Bool.false_or]
            unfold Wt.wr Wt.isRead; simp
          have HNO := Lib.hid hno
          clear hno hy
          go_wp2
          go_roundw
          case rel => exact ⟨i + 1, by omega, by go_num, HNO, HBl⟩
          case measure => simp [intOf]; omega
        · have z0d : decide (0 < (ix : Int)) = true := by simp; omega
          have z0p : 0 < (ix : Int) := by omega
          by_cases z1 : cl = c
          · subst z1
            by_cases z2 : rq = r
            · subst z2
              have hany : t.l.any (Wt.wr cl rq) = true := List.any_eq_true.2 ⟨_, List.mem_of_getElem? hy, by unfold Wt.wr Wt.isRead Wt.isOf; simp [z0]⟩
              have hE : t.wrE cl rq i0 = 0 ∧ t.write cl rq i0 = t := by unfold Dk.wrE Dk.write; rw [if_neg HI0.out, if_neg HI0.out, if_pos hany, if_pos hany]; exact ⟨rfl, rfl⟩
              have HE := Lib.hid hE
              clear hE hany hy
              go_wp2
              go_ret
              rw [HE.out.1, HE.out.2]
              exact ⟨rfl, RMv.same HH.out HBl.out⟩
            · have z2d : decide ((rq : Int) = (r : Int)) = false := by rw [dec_nat]; simpa using z2
              have z2p : ¬ (rq : Int) = (r : Int) := by omega
              have z2b : ((rq : Int) == (r : Int)) = false := by rw [beq_nat]; simpa using z2
              have hno : ((t.l.take (i + 1)).any (Wt.wr cl r)) = false := by
                rw [List.take_add_one, hy, List.any_append, HN.out]
                simp only [Option.toList_some, List.any_cons, List.any_nil, Bool.or_false, Bool.false_or]
                unfold Wt.wr Wt.isOf; simp [z2]
              have HNO := Lib.hid hno
              clear hno hy
              go_wp2
              go_roundw
              case rel => exact ⟨i + 1, by omega, by go_num, HNO, HBl⟩
              case measure => simp [intOf]; omega
          · have z1d : decide ((cl : Int) = (c : Int)) = false := by rw [dec_nat]; simpa using z1
            have z1p : ¬ (cl : Int) = (c : Int) := by omega
            have z1b : ((cl : Int) == (c : Int)) = false := by rw [beq_nat]; simpa using z1
            have hno : ((t.l.take (i + 1)).any (Wt.wr c r)) = false := by
              rw [List.take_add_one, hy, List.any_append, HN.out]
              simp only [Option.toList_some, List.any_cons, List.any_nil, Bool.or_false, Bool.false_or]
              unfold Wt.wr Wt.isOf; simp [z1]
            have HNO := Lib.hid hno
            clear hno hy
            go_wp2
            go_roundw
            case rel => exact ⟨i + 1, by omega, by go_num, HNO, HBl⟩
            case measure => simp [intOf]; omega
      · obtain rfl : i = t.l.length := by omega
        have hany : t.l.any (Wt.wr c r) = false := by have := HN.out; rwa [List.take_of_length_le (Nat.le_refl _)] at this
        have d5 : decide ((t.l.length : Int) < (t.l.length : Int)) = false := by simp
        have r0 := (HH.out.below HBl.out).c2
        have hli : (t.l.length : Int) ≤ 64 := by omega
        by_cases hf : 64 ≤ t.l.length
        · have hfull : t.full = true := by unfold Dk.full; simpa using hf
          have hE : t.wrE c r i0 = 53 ∧ t.write c r i0 = t := by
            unfold Dk.wrE Dk.write
            rw [if_neg HI0.out, if_neg HI0.out, hany, hfull]
            exact ⟨rfl, rfl⟩
          have HE := Lib.hid hE
          have d6 : decide (64 ≤ (t.l.length : Int)) = true := by simp; omega
          have d7 : 64 ≤ (t.l.length : Int) := by omega
          clear hE hfull hany hf hlt
          go_wp2
          go_ret
          rw [HE.out.1, HE.out.2]
          exact ⟨rfl, RMv.same HH.out HBl.out⟩
        · have hfull : t.full = false := by unfold Dk.full; simpa using hf
          have hE : t.wrE c r i0 = 0 ∧ t.write c r i0 = t.wait (t.l ++ [⟨c, r, i0, 0, 0, 0⟩]) := by
            unfold Dk.wrE Dk.write
            rw [if_neg HI0.out, if_neg HI0.out, hany, hfull]
            exact ⟨rfl, rfl⟩
          have HE := Lib.hid hE
          have d6 : decide (64 ≤ (t.l.length : Int)) = false := by simp; omega
          have d7 : ¬ 64 ≤ (t.l.length : Int) := by omega
          have H3 := Lib.hid (HH.out.below HBl.out)
          have HLE := Lib.hid (show t.l.length < 64 by omega)
          have HLB := Lib.hid (show B ≤ wr.heap.size from Nat.le_trans HB.out HBl.out.size)
          clear hE hfull hany hf hlt
          go_wp2_with (first
            | (at_builtin
               refine wpL_app rfl _ _ _ _ rfl E_rwt rfl rfl (H3.out.below ((Below.refl _ _).alloc (Nat.le_refl _) _)).own (Src.lit' rfl (n := 1) (sz := 6) Try.underlying41 #[.int .u64 (c : Int), .int .u64 (r : Int), .int .u64 (i0 : Int), .int .u32 0, .int .u32 0, .int .u64 0] rfl (by simp [Value.oneCell'])) (by unfold maxLen; omega) (by omega) (Nat.le_trans HLB.out (by simp)) ?_
               intro v3 w3 hown3 hg3 hat3
               have hb4 : Below wr.heap.size wr (wr.alloc (.cells #[.int .u64 (c : Int), .int .u64 (r : Int), .int .u64 (i0 : Int), .int .u32 0, .int .u32 0, .int .u64 0] 68)) := (Below.refl _ _).alloc (Nat.le_refl _) _
               have hk4 : Keeps (fun j => (Value.slice A t.l.length cc).ownBlock = some j) wr w3 := (Keeps.of_below hb4).grown hg3 (fun q hq => .inl hq)
               have hm5 := H3.out.waits (l2 := t.l ++ [⟨c, r, i0, 0, 0, 0⟩]) hk4 (by rw [List.length_append, wts_app, wts_one1]; exact hown3) (hat3.imp id (fun e q hq => by rw [e] at hq; cases hq; simp)) (by rw [List.length_append]; exact HLE.out) (fun x hx => by
                 rcases List.mem_append.1 hx with hx | hx
                 · exact HH.out.ok.ix x hx
                 · cases List.mem_singleton.1 hx
                   exact HI.out)
               have hr4 := hk4.row H3.out.row H3.out.vg
               have f0 : w3.frozen? ⟨g, 2, none⟩ = false := frozen_of_row w3 g 2 _ _ hr4
               have e0 : w3.cell? ⟨g, 2, none⟩ = some (.slice A t.l.length cc) := cell_of_row w3 g 2 _ _ _ hr4
               obtain ⟨A4, c4, rfl⟩ := ownsRow_form hown3
               have HM5 := Lib.hid hm5
               clear hm5 hk4 hr4 hown3 hg3 hat3 hb4)
            | fail)
          go_ret
          rw [HE.out.1, HE.out.2]
          exact ⟨rfl, RMv.pre (Keeps.of_below HBl.out) HM5.out⟩
end Go.Proofs.Ytkcpldkdnnhmmaa

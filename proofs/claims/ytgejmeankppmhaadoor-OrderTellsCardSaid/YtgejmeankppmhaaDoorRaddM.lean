/- The document's Add. -/
import Derived.Test.YtgejmeankppmhaaDoorRdoneM
import Derived.Test.YtgejmeankppmhaaDoorAddM
namespace Go.Proofs.YtgejmeankppmhaaDoor
open Go.RowKit

theorem TabT.wpLoadw {P : Program} {w : World} {ty ct : TypeId} {ops : Array Oper} {rest : List Oper} {o : Oper} {a : Act} {Q : Exit → Act → World → Prop} (h : TabT P ty ct) (hw : Region.wanted o (yielded ops a.tmps) = true) (x : Operand) (ho : o.op = .load ty x) {g : Nat} {e : TypeId} {fr : Nat × Nat} {T : List Cl} (hx : a.eval x = .pointer (some ⟨g, 0, none⟩)) (hr : w.heap[g]? = some (.cells (tcells T).toArray e fr)) (hT : T.length = 8)
    (hk : wpList P ops Q rest (a.put o.dst (tbv T)) w) : wpList P ops Q (o :: rest) a w := by
  refine wpList_step fun K hK => ?_
  rw [if_pos hw]
  have hrun := h.loads hr hT
  unfold Oper.wp
  simp only [execOp, ho, hx, Sem.run_bind, hrun, Result.andThen_ok, Sem.run_pure]
  exact hK _ _ hk

theorem unit_next (u k : Nat) (hu : u = 2 ^ k % 65536) (hk : k < 16) : IntKind.u16.wrap (2 * (u : Int)) = ((2 ^ (k + 1) % 65536 : Nat) : Int) := by
  have := p16 hk
  rw [Nat.mod_eq_of_lt (by omega)] at hu
  rw [IntKind.wrap_u16, Nat.pow_succ, ← hu]
  omega
theorem acc_next (X k a u : Nat) (ha : a = X % 2 ^ k) (hu : u = 2 ^ k % 65536) (hk : k < 16) : X % 2 ^ (k + 1) = if X.testBit k then a + u else a := by
  have := p16 hk
  rw [Nat.mod_eq_of_lt (by omega)] at hu
  rw [mod_step, ha, hu]
  split <;> omega

set_option maxRecDepth 20000 in
set_option maxHeartbeats 4000000 in
theorem radd_yes (T : List Cl) (c r : Nat) (w : World) (hT : Tok T) (hr : r < 18446744073709551616) (h8 : 1 ≤ c ∧ c ≤ 8) (ho : oldN (T.getD (c - 1) (0, 0)).1 r = false) (hh : hasN (T.getD (c - 1) (0, 0)) r = false) :
    Calls Tryd.prog 31 #[tbv T, .int .u64 (c : Int), .int .u64 (r : Int)] w fun e w' => e = .returned (.tuple #[tbv (T.set (c - 1) (withN (T.getD (c - 1) (0, 0)) r)), .bool true]) ∧ Below w.heap.size w w' := by
  have hold := fun W => rold8_any T c r W hT
  have hhas := fun W => rhas8_any T c r W hT
  rw [at8_in h8] at hold hhas
  rw [ho] at hold
  rw [hh] at hhas
  have hi := hT.at_ h8
  have hok := hT.get (c - 1)
  have hTl := hT.1
  have h1i : decide ((c : Int) < 1) = false := by simp; omega
  have h2i : decide ((8 : Int) < (c : Int)) = false := by simp; omega
  obtain ⟨h1, h2⟩ := h8
  generalize T.getD (c - 1) (0, 0) = p at *
  have hbit := fun W k (h : k ≤ 100) => rbit_any p k W hok h
  obtain ⟨g0, g1⟩ := tcells_get T _ _ hi
  have hwok := withN_ok hok hr ho
  have hwt := withN_top p r
  have hwb := fun k (hk : k < 16) => withN_bitN (p := p) (r := r) hk
  obtain ⟨t, b⟩ := p
  obtain ⟨S, hS⟩ : ∃ S, S = T.set (c - 1) (withN (t, b) r) := ⟨_, rfl⟩
  have hput := fun (w : World) (g : Nat) (e : TypeId) (hr : w.heap[g]? = some (.cells (tcells T).toArray e (0, 0))) => put_cl (k := c - 1) hr (withN (t, b) r)
  rw [← hS] at hput ⊢
  have hSl : S.length = 8 := by rw [hS, List.length_set]; exact hTl
  generalize hq : withN (t, b) r = q at *
  obtain ⟨M, X⟩ := q
  dsimp only at g0 g1 hwok hwt hwb hput hbit
  have hMi1 : max (t : Int) (r : Int) = (M : Int) := by omega
  have hMi2 : (if (t : Int) < (r : Int) then (r : Int) else (t : Int)) = (M : Int) := by split <;> omega
  have hMi3 : (if t < r then (r : Int) else (t : Int)) = (M : Int) := by split <;> omega
  have ht64 := hok.1
  have hb16 := hok.2
  have hM64 := hwok.1
  have hX16 := hwok.2
  have hMt : t ≤ M := by omega
  have hMr : r ≤ M := by omega
  dsimp only at ht64 hb16 hM64 hX16
  have HWB := Lib.hid (show ∀ k, k < 16 → X.testBit k = (decide (k = M - r) || (decide (M - t ≤ k) && b.testBit (k - (M - t)))) from fun k hk => by rw [hwb k hk]; unfold bitN; dsimp only; rw [← hwt])
  have HO := Lib.hid hold
  have HH := Lib.hid hhas
  have HB := Lib.hid hbit
  have HP := Lib.hid hput
  have HT := Lib.hid hTl
  have HS := Lib.hid hSl
  have G0 := Lib.hid g0
  have G1 := Lib.hid g1
  have HM := Lib.hid hwt
  unfold clv at HB
  clear hold hhas hbit hput hTl hSl g0 g1 hwt hwb hq hS hi hok hwok hT ho hh
  go_enter Tryd.func31, Tryd.ntmps31
  go_wp2_with (first
    | (refine wpL_tbox rfl (.tmp 0) rfl rfl ?_; intro W0 b3 hN; obtain ⟨hb3, hr3, hl3, hz3⟩ := hN)
    | (refine tabB.wpNew (o := ⟨some 6, _, _, _, _, _⟩) rfl rfl ?_; intro W1 b6 hN; obtain ⟨hb6, hr6, hl6, hz6⟩ := hN
       have h3 := Lib.hid (row_below hr3.out hl6)
       have lt3 : b3 < b6 := by have := hb6.out; have := hz3.out; omega)
    | (refine tabB.wpLoadw (o := ⟨some 20, _, _, _, _, _⟩) rfl (.tmp 3) rfl rfl h3.out HT.out ?_)
    | (go_at_call 52; refine (HO.out _).mono ?_; rintro e w2 ⟨rfl, hb2⟩
       have h23 := Lib.hid (row_below h3.out hb2)
       have h26 := Lib.hid (row_below hr6.out hb2))
    | (refine tabB.wpLoadw (o := ⟨some 26, _, _, _, _, _⟩) rfl (.tmp 3) rfl rfl h23.out HT.out ?_)
    | (go_at_call 53; refine (HH.out _).mono ?_; rintro e w3 ⟨rfl, hb3'⟩
       have h33 := Lib.hid (row_below h23.out hb3')
       have h36 := Lib.hid (row_below h26.out hb3')
       have k0 : w3.cell? ⟨b3, (c - 1) * 2, none⟩ = some (.int .u64 (t : Int)) := by rw [cell_of_row w3 b3 _ _ _ _ h33.out]; simpa using G0.out
       have k1 : w3.cell? ⟨b3, (c - 1) * 2 + 1, none⟩ = some (.int .u16 (b : Int)) := by rw [cell_of_row w3 b3 _ _ _ _ h33.out]; simpa using G1.out)
    | fail)
  have hlow : Below w.heap.size w w3 := (((hl3.trans (hl6.mono hl3.size)).trans (hb2.mono (Nat.le_trans hl3.size hl6.size))).trans (hb3'.mono (Nat.le_trans hl3.size (Nat.le_trans hl6.size hb2.size))))
  have hw6 : b6 < w3.heap.size := (Array.getElem?_eq_some_iff.1 h36.out).1
  have hw3 : b3 < w3.heap.size := (Array.getElem?_eq_some_iff.1 h33.out).1
  have HLOW := Lib.hid hlow
  have LW3 : Hid (w.heap.size ≤ b3) := Lib.hid (Nat.le_of_eq hb3.out.symm)
  clear hb3 hr3 hl3 hz3 hb6 hr6 hl6 hz6 h3 hb2 h23 h26 hb3' k0 k1 hlow
  obtain ⟨Y, hY, hYz, hY8, hY9, hYb⟩ := boxes2 w3 #[.int .u64 (t : Int), .int .u16 (b : Int)] #[.int .u64 (M : Int), .int .u16 0] 47 47
  rw [← hY]
  have H8 := Lib.hid hY8
  have H9 := Lib.hid hY9
  have HZ := Lib.hid hYz
  have HB16 := Lib.hid hb16
  have hX16 := Lib.hid hX16
  have HM64 := Lib.hid hM64
  clear hb16 hM64 ht64
  clear hY hY8 hY9 hYz hMi1 hMi2 hMi3 h1i h2i
  go_loopw [10, 11] (fun ur kr wr => ∃ k u a : Nat, k ≤ 16 ∧ Hid (u = 2 ^ k % 65536) ∧ Hid (a = X % 2 ^ k) ∧ kr = .int .u64 (k : Int) ∧ ur = .int .u16 (u : Int) ∧ Hid (wr.heap[w3.heap.size]? = some (.cells #[.int .u64 (t : Int), .int .u16 (b : Int)] 47 (0, 0))) ∧ Hid (wr.heap[w3.heap.size + 1]? = some (.cells #[.int .u64 (M : Int), .int .u16 (a : Int)] 47 (0, 0))) ∧ Hid (Below w3.heap.size w3 wr)) (fun _ kr _ => 16 - (intOf kr).toNat)
  case atStart => exact ⟨0, 1, 0, Nat.zero_le _, Lib.hid rfl, Lib.hid (by simp [Nat.mod_one]), rfl, rfl, H8, H9, Lib.hid hYb⟩
  case round =>
    obtain ⟨k, u, a, hk, hu, ha, rfl, rfl, R8, R9, RB⟩ := hrel
    have c80 := cell_of_row wr _ 0 _ _ _ R8.out
    have c81 := cell_of_row wr _ 1 _ _ _ R8.out
    have c90 := cell_of_row wr _ 0 _ _ _ R9.out
    have c91 := cell_of_row wr _ 1 _ _ _ R9.out
    have f91 := frozen_of_row wr _ 1 _ _ R9.out
    simp at c80 c81 c90 c91
    by_cases hlt : k < 16
    · have hun := Lib.hid (unit_next u k hu.out hlt)
      have hac := Lib.hid (acc_next X k a u ha.out hu.out hlt)
      have hun1 : u ≤ 32768 := by have h1 := p16 hlt; rw [hu.out, Nat.mod_eq_of_lt (by omega)]; exact h1
      have hub : (u : Int) ≤ 32768 := by omega
      have hbnd : (a : Int) + (u : Int) ≤ 65535 := by
        have h1 := acc_next X k a u ha.out hu.out hlt
        have h2 : X % 2 ^ (k + 1) ≤ X := Nat.mod_le _ _
        have h3 : a < 2 ^ k := by rw [ha.out]; exact Nat.mod_lt _ (Nat.two_pow_pos k)
        have h4 := p16 hlt
        have h5 := hX16.out
        omega
      have hcond := HWB.out k hlt
      have e2 : IntKind.u64.wrap ((M : Int) - (r : Int)) = (M : Int) - (r : Int) := u64w _ (by omega) (by have := HM64.out; omega)
      have e3 : IntKind.u64.wrap ((M : Int) - (t : Int)) = (M : Int) - (t : Int) := u64w _ (by omega) (by have := HM64.out; omega)
      by_cases hA : k = M - r
      · have e1 : ((k : Int) == (M : Int) - (r : Int)) = true := by simp; omega
        have hX : X.testBit k = true := by rw [hcond]; simp [hA]
        rw [hX] at hac
        clear hcond hX hA
        go_wp2
        go_roundw
        case rel =>
          refine ⟨k + 1, 2 ^ (k + 1) % 65536, a + u, by omega, Lib.hid rfl, Lib.hid (by have := hac.out; simpa using this.symm), by go_num, by rw [hun.out], ?_, ?_, ?_⟩
          · exact Lib.hid ((heap_setCell_other _ _ _ _ (by simp)).trans (R8.out))
          · exact Lib.hid (by have h9 := R9.out; rw [heap_setCell_same _ _ 1 _ _ _ h9]; rfl)
          · exact Lib.hid ((RB.out).setCell (by simp) _)
        case measure => simp [intOf]; omega
      · have e1 : ((k : Int) == (M : Int) - (r : Int)) = false := by simp; omega
        by_cases hB : M - t ≤ k
        · have e4 : decide ((M : Int) - (t : Int) ≤ (k : Int)) = true := by simp; omega
          have e5 : IntKind.u64.wrap ((k : Int) - ((M : Int) - (t : Int))) = (k : Int) - ((M : Int) - (t : Int)) := u64w _ (by omega) (by omega)
          have hbt := fun W => HB.out W (k - (M - t)) (by omega)
          rw [show ((k - (M - t) : Nat) : Int) = (k : Int) - ((M : Int) - (t : Int)) by omega] at hbt
          simp only [hA, hB, decide_false, decide_true, Bool.false_or, Bool.true_and] at hcond
          cases hX : b.testBit (k - (M - t))
          · rw [hX] at hcond hbt
            rw [hcond] at hac
            have HBT := Lib.hid hbt
            clear hcond hX hA hB hbt
            go_wp2_with (first
              | (go_at_call 54; refine (HBT.out _).mono ?_; rintro e w5 ⟨rfl, hb5⟩)
              | fail)
            go_roundw
            case rel =>
              refine ⟨k + 1, 2 ^ (k + 1) % 65536, a, by omega, Lib.hid rfl, Lib.hid (by have := hac.out; simpa using this.symm), by go_num, by rw [hun.out], ?_, ?_, ?_⟩
              · exact Lib.hid (row_below R8.out hb5)
              · exact Lib.hid (row_below R9.out hb5)
              · exact Lib.hid (RB.out.trans (hb5.mono RB.out.size))
            case measure => simp [intOf]; omega
          · rw [hX] at hcond hbt
            rw [hcond] at hac
            have HBT := Lib.hid hbt
            clear hcond hX hA hB hbt
            go_wp2_with (first
              | (go_at_call 54; refine (HBT.out _).mono ?_; rintro e w5 ⟨rfl, hb5⟩
                 have c91 := cell_of_row w5 _ 1 _ _ _ (row_below R9.out hb5)
                 have f91 := frozen_of_row w5 _ 1 _ _ (row_below R9.out hb5)
                 simp at c91)
              | fail)
            go_roundw
            case rel =>
              refine ⟨k + 1, 2 ^ (k + 1) % 65536, a + u, by omega, Lib.hid rfl, Lib.hid (by have := hac.out; simpa using this.symm), by go_num, by rw [hun.out], ?_, ?_, ?_⟩
              · exact Lib.hid ((heap_setCell_other _ _ _ _ (by simp)).trans (row_below R8.out hb5))
              · exact Lib.hid (by have h9 := row_below R9.out hb5; rw [heap_setCell_same _ _ 1 _ _ _ h9]; rfl)
              · exact Lib.hid ((RB.out.trans (hb5.mono RB.out.size)).setCell (by simp) _)
            case measure => simp [intOf]; omega
        · have e4 : decide ((M : Int) - (t : Int) ≤ (k : Int)) = false := by simp; omega
          simp only [hA, hB, decide_false, Bool.false_or, Bool.false_and] at hcond
          rw [hcond] at hac
          clear hcond hA hB
          go_wp2
          go_roundw
          case rel =>
            refine ⟨k + 1, 2 ^ (k + 1) % 65536, a, by omega, Lib.hid rfl, Lib.hid (by have := hac.out; simpa using this.symm), by go_num, by rw [hun.out], ?_, ?_, ?_⟩
            · exact Lib.hid (R8.out)
            · exact Lib.hid (R9.out)
            · exact Lib.hid (RB.out)
          case measure => simp [intOf]; omega
    · obtain rfl : k = 16 := by omega
      have hfa : a = X := by rw [ha.out]; exact Nat.mod_eq_of_lt hX16.out
      subst hfa
      clear hu ha
      have r3 := Lib.hid ((RB.out.block b3 hw3).trans h33.out)
      have r6 := Lib.hid ((RB.out.block b6 hw6).trans h36.out)
      have k0 : wr.cell? ⟨b3, (c - 1) * 2, none⟩ = some (.int .u64 (t : Int)) := by rw [cell_of_row wr b3 _ _ _ _ r3.out]; simpa using G0.out
      have k1 : wr.cell? ⟨b3, (c - 1) * 2 + 1, none⟩ = some (.int .u16 (b : Int)) := by rw [cell_of_row wr b3 _ _ _ _ r3.out]; simpa using G1.out
      have z0 := frozen_of_row wr b3 ((c - 1) * 2) _ _ r3.out
      have z1 := frozen_of_row wr b3 ((c - 1) * 2 + 1) _ _ r3.out
      have hp3 := Lib.hid (HP.out wr b3 _ r3.out)
      have hg3 : wr.grownBy ((wr.setCell ⟨b3, (c - 1) * 2, none⟩ (.int .u64 (M : Int))).setCell ⟨b3, (c - 1) * 2 + 1, none⟩ (.int .u16 (a : Int))) (some b3) := setCell_by (w' := wr.setCell ⟨b3, (c - 1) * 2, none⟩ (.int .u64 (M : Int))) (p := ⟨b3, (c - 1) * 2 + 1, none⟩) (setCell_by (w' := wr) (p := ⟨b3, (c - 1) * 2, none⟩) (World.grownBy.refl wr (some b3)) rfl (.int .u64 (M : Int))) rfl (.int .u16 (a : Int))
      have HG3 := Lib.hid hg3
      have r36 := Lib.hid (row_far r6.out hg3 (fun e => by have := Option.some.inj e; omega))
      have hlowr := HLOW.out.trans (RB.out.mono HLOW.out.size)
      have hsz := hlowr.size
      have HLR := Lib.hid hlowr
      clear hg3 hlowr
      have h1i : (1 : Int) ≤ (c : Int) := by omega
      have h2i : (c : Int) ≤ 8 := by omega
      go_wp2_with (first
        | (refine tabB.wpLoad (o := ⟨some 79, _, _, _, _, _⟩) rfl (.tmp 3) rfl rfl hp3.out HS.out ?_)
        | (refine tabB.wpStore rfl (.tmp 6) (.tmp 79) rfl rfl rfl r36.out rfl HS.out ?_; intro W9 hr9 hg9 hz9)
        | fail)
      have hfin : Below w.heap.size w W9 := (HLR.out.grown HG3.out hsz (fun k e => by cases e; exact LW3.out)).grown hg9 (by simpa [World.setCell] using hsz) (fun k e => by cases e; have := LW3.out; omega)
      have HF := Lib.hid hfin
      clear hfin hg9
      refine bodyPost_ret (results_cell_tmp (fn := Tryd.f31) rfl _ b6 49 _ (0, 0) _ rfl hr9.out Tryd.underlying49 rfl (by rw [tabB.size]; simp [tcells_len, HS.out])) rfl ⟨rfl, HF.out⟩

end Go.Proofs.YtgejmeankppmhaaDoor

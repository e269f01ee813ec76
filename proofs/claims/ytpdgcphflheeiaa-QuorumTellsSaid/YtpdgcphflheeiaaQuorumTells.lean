/- QuorumTells: of any sets who is in them, and whether the one has a majority of the other one, is the document's, for every input. -/
import Derived.Test.YtpdgcphflheeiaaQl
import Derived.Test.YtpdgcphflheeiaaQe
import Derived.Test.YtpdgcphflheeiaaQw
namespace Go.Proofs.Ytpdgcphflheeiaa
open Go.RowKit
set_option maxRecDepth 20000

theorem tells_early (a b : Nat) (n : Int) (A : Option Addr) (m c : Nat) (w : World) (h : 200 < m) :
    Calls Try.prog 3 #[.int .u64 (a : Int), .int .u64 (b : Int), .int .i64 n, .slice A m c] w fun e w' => e = .returned (.bool true) ∧ Below w.heap.size w w' := by
  have HL := Lib.hid (lives20 w)
  have d3 : decide (200 < m) = true := by simp; omega
  have d4 : ¬ m ≤ 200 := by omega
  have d6 : decide (200 < (m : Int)) = true := by simp; omega
  go_enter Try.func3, Try.ntmps3
  go_wp2_with (first
    | (go_at_call 7; refine HL.out.mono ?_; rintro e w3 ⟨rfl, hb3⟩)
    | fail)
  go_ret
  exact ⟨rfl, hb3⟩
def anyB (l : List Int) (i : Nat) : Bool := l.any fun n => decide (n = (i : Int))
theorem anyB_snoc (l : List Int) (y : Int) (i : Nat) : anyB (l ++ [y]) i = (anyB l i || (y == (i : Int))) := by
  unfold anyB
  rw [List.any_append]
  congr 1
  simp only [List.any_cons, List.any_nil, Bool.or_false]
  rw [Bool.eq_iff_iff]
  simp
set_option maxHeartbeats 4000000 in
theorem tells_late {w : World} (a b : Nat) (ha : a < 18446744073709551616) (hb : b < 18446744073709551616) (x : Int) {A : Option Addr} {n c : Nat} {l : List Int} (h : Rd w w.heap.size 1 A n c (is l)) (hn : n ≤ 200) :
    Calls Try.prog 3 #[.int .u64 (a : Int), .int .u64 (b : Int), .int .i64 x, .slice A n c] w fun e w' => e = .returned (.bool true) ∧ Below w.heap.size w w' := by
  have hl : l.length = n := by have := h.len; rwa [is_len] at this
  have HW := Lib.hid (with_any a ha h (by omega))
  have H1 := Lib.hid (fun i (hi : i < n) => h.at_ hi)
  have HLN := Lib.hid hl
  have HR := Lib.hid (fun (i : Nat) (W : World) => rhas_any a (i : Int) W ha)
  have HR2 := Lib.hid (fun (i : Nat) (W : World) => rhas_any (withN a l) (i : Int) W (withN_lt l ha))
  have HRX := Lib.hid (fun (W : World) => rhas_any a x W ha)
  have HHX := Lib.hid (fun (W : World) => has_any a x W ha)
  have HRM := Lib.hid (rmembers_any a w ha)
  have HMM := Lib.hid (fun W => members_any a W ha)
  have HSZ := Lib.hid (fun W => size_any a W ha)
  have HMJ := Lib.hid (fun W => maj_any a b W ha hb)
  have HRJ := Lib.hid (fun W => rmaj_any a b W ha hb)
  have HLV := Lib.hid (fun W => lives20 W)
  have HBI := Lib.hid (fun i hi => withN_bit a l i hi)
  have HL64 := Lib.hid (mem_len64 a)
  have hp64 := pop64_le a
  have d1 : decide (200 < n) = false := by simp; omega
  have d2 : decide (200 < (n : Int)) = false := by simp; omega
  have h1 : (n : Int) ≤ 200 := by omega
  clear h hl ha hb
  go_enter Try.func3, Try.ntmps3
  go_wp2_with (first
    | (go_at_call 8; refine HW.out.mono ?_; clear HW; rintro e w3 ⟨rfl, rfl⟩)
    | fail)
  go_loop [22] (fun ir => ∃ i : Nat, i ≤ 64 ∧ ir = .int .i64 (i : Int)) (fun ir => 64 - (intOf ir).toNat)
  case atStart => exact ⟨0, Nat.zero_le _, rfl⟩
  case round =>
    obtain ⟨i, hi, rfl⟩ := hrel
    by_cases hlt : i < 64
    · have hr := HR.out i
      have hr2 := HR2.out i
      rw [inB_nat _ i hlt] at hr hr2
      rw [HBI.out i hlt] at hr2
      have HLT := Lib.hid hlt
      have dk : decide ((i : Int) < 64) = true := by simp; omega
      have hi2 : (i : Int) ≤ 100 := by omega
      clear hlt
      generalize a.testBit i = t0 at *
      have HRI := Lib.hid hr
      have HRJ2 := Lib.hid hr2
      clear hr hr2
      go_wp2_with (first
        | (go_at_call 9; refine (HRI.out _).mono ?_; rintro e w4 ⟨rfl, rfl⟩)
        | fail)
      go_loop [11, 30] (fun br jr => ∃ j : Nat, j ≤ n ∧ jr = .int .i64 (j : Int) ∧ br = .bool (t0 || anyB (l.take j) i)) (fun _ jr => n - (intOf jr).toNat)
      case atStart => exact ⟨0, Nat.zero_le _, rfl, by simp [anyB]⟩
      case round =>
        obtain ⟨j, hj, rfl, rfl⟩ := hrel
        by_cases hltj : j < n
        · obtain ⟨p1, o1, v1, rfl, hp1, hv1, hc1⟩ := H1.out j hltj
          obtain ⟨y, hy, rfl⟩ : ∃ y, l[j]? = some y ∧ v1 = .int .i64 y := by
            unfold is at hv1
            rw [List.getElem?_map] at hv1
            cases hx : l[j]? with
            | none => rw [hx] at hv1; cases hv1
            | some x => rw [hx] at hv1; exact ⟨x, rfl, (Option.some.inj hv1).symm⟩
          have hst : (t0 || anyB (l.take (j + 1)) i) = ((t0 || anyB (l.take j) i) || (y == (i : Int))) := by
            obtain ⟨hil, rfl⟩ := List.getElem?_eq_some_iff.1 hy
            rw [List.take_succ_eq_append_getElem hil, anyB_snoc, Bool.or_assoc]
          have HST := Lib.hid hst
          have dj : decide (j < n) = true := by simpa using hltj
          clear hv1 hp1 hy hst
          generalize (t0 || anyB (l.take j) i) = q at *
          cases q with
          | true =>
            go_wp2_with (fail)
            go_round
            case rel => exact ⟨j + 1, by omega, by go_num, by rw [HST.out]; rfl⟩
            case measure => simp [intOf]; omega
          | false =>
            cases hyb : (y == (i : Int))
            · rw [hyb] at HST
              go_wp2_with (fail)
              go_round
              case rel => exact ⟨j + 1, by omega, by go_num, by rw [HST.out]; rfl⟩
              case measure => simp [intOf]; omega
            · rw [hyb] at HST
              go_wp2_with (fail)
              go_round
              case rel => exact ⟨j + 1, by omega, by go_num, by rw [HST.out]; rfl⟩
              case measure => simp [intOf]; omega
        · obtain rfl : j = n := by omega
          have hT : l.take j = l := List.take_of_length_le (by rw [HLN.out]; exact Nat.le_refl _)
          rw [hT]
          have dj : decide (j < j) = false := by simp
          have hq : (t0 || l.any fun n => decide (n = (i : Int))) = (t0 || anyB l i) := rfl
          rw [hq] at HRJ2
          clear hltj hT hq
          generalize (t0 || anyB l i) = q at *
          cases q
          all_goals
            go_wp2_with (first
              | (go_at_call 9; refine (HRJ2.out _).mono ?_; rintro e w4 ⟨rfl, rfl⟩)
              | fail)
            go_round
            case rel => exact ⟨i + 1, by have := HLT.out; omega, by go_num⟩
            case measure => have := HLT.out; simp [intOf]; omega
    · obtain rfl : i = 64 := by omega
      have dk : decide (((64 : Nat) : Int) < 64) = false := by simp
      clear hlt
      generalize inB a x = t1 at *
      generalize majB a b = t2 at *
      have hlen : (mem_ a 64).length ≤ 64 := mem_len a 64
      generalize mem_ a 64 = ml at *
      generalize pop 64 a = pp at *
      go_wp2_with (first
        | (go_at_call 10; refine HRM.out.mono ?_; clear HRM; rintro e w4 ⟨A4, c4, rfl, ho4, hb4⟩; have HO4 := Lib.hid ho4; have HB4 := Lib.hid hb4; clear ho4 hb4)
        | (go_at_call 11; refine (HHX.out _).mono ?_; rintro e w5 ⟨rfl, rfl⟩)
        | (go_at_call 9; refine (HRX.out _).mono ?_; rintro e w5 ⟨rfl, rfl⟩)
        | (go_at_call 13; refine (HMM.out _).mono ?_; rintro e w5 ⟨A5, c5, rfl, ho5, hb5⟩
           have HR4 := Lib.hid (((ownsRow_rd HO4.out).below hb5).more hb5.size)
           have HR5 := Lib.hid (ownsRow_rd ho5)
           have HB5 := Lib.hid (HB4.out.trans (hb5.mono HB4.out.size))
           clear ho5 hb5)
        | (go_at_call 12; refine (ints_any HR5.out HR4.out (by omega)).mono ?_; rintro e w6 ⟨rfl, hb6⟩; have HB6 := Lib.hid (HB5.out.trans (hb6.mono HB5.out.size)); clear hb6)
        | (go_at_call 14; refine (HSZ.out _).mono ?_; rintro e w5 ⟨rfl, rfl⟩; rw [HL64.out])
        | (go_at_call 15; refine (HMJ.out _).mono ?_; rintro e w5 ⟨rfl, rfl⟩)
        | (go_at_call 16; refine (HRJ.out _).mono ?_; rintro e w7 ⟨rfl, hb7⟩; have HB7 := Lib.hid (HB6.out.trans (hb7.mono HB6.out.size)); clear hb7)
        | (go_at_call 7; refine (HLV.out _).mono ?_; rintro e w8 ⟨rfl, hb8⟩)
        | fail)
      go_ret
      exact ⟨rfl, HB7.out.trans (hb8.mono HB7.out.size)⟩
theorem quorumTells_walk {w : World} (a : Nat) (ha : a < 18446744073709551616) (b : Nat) (hb : b < 18446744073709551616) (x : Int) (A : Option Addr) (n c : Nat) (l : List Int) (h : Rd w w.heap.size 1 A n c (is l)) :
    Calls Try.prog 3 #[.int .u64 (a : Int), .int .u64 (b : Int), .int .i64 x, .slice A n c] w fun e w' => e = .returned (.bool true) ∧ Below w.heap.size w w' := by
  by_cases hn : 200 < n
  · exact tells_early a b x A n c w hn
  · exact tells_late a b ha hb x h (by omega)
theorem quorumTells_top {w : World} (a : Nat) (ha : a < 18446744073709551616) (b : Nat) (hb : b < 18446744073709551616) (x : Int) (_ : (Lit.int .i64 x).wf = true) (A : Option Addr) (n c : Nat) (l : List Int) (h : Rd w w.heap.size 1 A n c (l.map (Value.int .i64))) (_ : ∀ y ∈ l, (Lit.int .i64 y).wf = true) :
    Calls Try.prog 3 #[.int .u64 (a : Int), .int .u64 (b : Int), .int .i64 x, .slice A n c] w fun e w' => e = .returned (.bool true) ∧ Below w.heap.size w w' := quorumTells_walk a ha b hb x A n c l h
namespace quorumTells
open Go.ChangeShapes Go.WideShapes Go.ChangeAt
set_option maxRecDepth 100000 in
theorem lifted (os : Os) (started : os.Started) (H : Type) (enc : TypeId × Value → H) :
    ReturnsInHanded {} Try.checked os 3 .any (Rows.quorumTellsSpec.pre6 enc Try.prog Try.f3 Rows.quorumTellsRow.domain false) (Rows.quorumTellsSpec.post enc Try.prog Try.f3 false true false false) := by
  refine returnsInHanded_of_change (C := Try.checked) own started (by kernel_rfl) Try.func3
    (ChangeSpec.witness6 (enc := enc) (C := Try.checked) false ⟨#[], #[.int .u64 0, .int .u64 0, .int .i64 0, .slice none 0 0], []⟩ 8 (by kernel_rfl) (by kernel_rfl) (by kernel_rfl) (by kernel_rfl)) ?_
  intro W base args ds gs before hval0 hW _ _
  have hval : ∀ (j : Nat) t v, Try.f3.params[j]? = some t → args[j]? = some v → Value.okWide Try.prog W .any base t v := hval0
  have hW' := hW
  obtain ⟨p, q, hA0, hV, rfl, hfz, hnd⟩ := hW
  have hA : DataW.TrodAll enc Try.prog W 0 (fun _ => true) true Try.f3.params.toList args.toList ds p := hA0
  rw [Try.params3] at hA hval
  obtain ⟨v0, vs0, d0, ds0, p0, q0, hargs, rfl, rfl, h0, r0⟩ := trodAll_cons hA
  obtain ⟨v1, vs1, d1, ds1, p1, q1, rfl, rfl, rfl, h1, r1⟩ := trodAll_cons r0
  obtain ⟨v2, vs2, d2, ds2, p2, q2, rfl, rfl, rfl, h2, r2⟩ := trodAll_cons r1
  obtain ⟨v3, vs3, d3, ds3, p3, q3, rfl, rfl, rfl, h3, r3⟩ := trodAll_cons r2
  obtain ⟨rfl, rfl, rfl⟩ := trodAll_nil r3
  obtain rfl : args = #[v0, v1, v2, v3] := by cases args; simp_all
  obtain ⟨rfl, rfl⟩ := trodVars_none hV
  have k0 := h0
  have lt0 : ∀ x ∈ p0, x.block < W.heap.size := by obtain ⟨m, hm⟩ := k0; exact DataW.trod_lt m _ _ _ hm
  obtain ⟨x0, rfl, w0⟩ := dec_u64 Try.underlying22 (hval 0 22 v0 rfl rfl) h0
  have k1 := h1
  have lt1 : ∀ x ∈ p1, x.block < W.heap.size := by obtain ⟨m, hm⟩ := k1; exact DataW.trod_lt m _ _ _ hm
  obtain ⟨x1, rfl, w1⟩ := dec_u64 Try.underlying22 (hval 1 22 v1 rfl rfl) h1
  have k2 := h2
  have lt2 : ∀ x ∈ p2, x.block < W.heap.size := by obtain ⟨m, hm⟩ := k2; exact DataW.trod_lt m _ _ _ hm
  obtain ⟨x2, rfl, w2⟩ := dec_int Try.underlying3 (hval 2 3 v2 rfl rfl) h2
  have k3 := h3
  have lt3 : ∀ x ∈ p3, x.block < W.heap.size := by obtain ⟨m, hm⟩ := k3; exact DataW.trod_lt m _ _ _ hm
  obtain ⟨a3, n3, c3, l3, rfl, w3, b3⟩ := dec_nums (k := .i64) Try.underlying23 Try.underlying3 (by kernel_rfl) (hval 3 23 v3 rfl rfl) h3
  clear hA0 hval0
  refine (quorumTells_top x0 w0 x1 w1 x2 w2 a3 n3 c3 l3 w3 b3).mono fun e W' ⟨he, bel⟩ => ?_
  subst he
  exact ⟨_, rfl, _, _, _, [], _, [], hW', trodAll_mk1 (shut_bool Try.underlying4 _), (trodAll_cons_mk (Below.trod laidOut (by kernel_rfl) (of_decide_eq_true (by kernel_rfl)) k0 bel lt0) (trodAll_cons_mk (Below.trod laidOut (by kernel_rfl) (of_decide_eq_true (by kernel_rfl)) k1 bel lt1) (trodAll_cons_mk (Below.trod laidOut (by kernel_rfl) (of_decide_eq_true (by kernel_rfl)) k2 bel lt2) (trodAll_cons_mk (Below.trod laidOut (by kernel_rfl) (of_decide_eq_true (by kernel_rfl)) k3 bel lt3) trodAll_mk0)))), rfl, bel.frame _, fun h => by cases h⟩

theorem over : Rows.quorumTellsRow.holds Try.pinned (OpenSpec.ofChange Rows.quorumTellsSpec) :=
  OpenClaim.holds_of_wide 3 Try.f3 rfl rfl rfl rfl rfl rfl rfl ⟨rfl, rfl, rfl, rfl, rfl⟩ rfl rfl rfl rfl rfl (by kernel_rfl) Try.func3 (by kernel_rfl)
    (of_decide_eq_true (by kernel_rfl)) (by unfold Func.isWrapper; first | (rw [if_pos (by decide +kernel)]; kernel_rfl) | (rw [if_neg (by decide +kernel)]; exact ⟨rfl, rfl⟩))
    (fun os started H enc _ => lifted os started H enc)
/-- The given statement. -/
theorem proved : Rows.QuorumTellsSaid := over
end quorumTells

end Go.Proofs.Ytpdgcphflheeiaa

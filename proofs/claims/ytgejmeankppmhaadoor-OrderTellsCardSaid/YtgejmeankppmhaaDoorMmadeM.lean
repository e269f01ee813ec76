/- Contracts of marks.Over and marks.Join, and what they mark. The contract of the reference's made, and that what it makes is what settled marks are that mark the same. -/
import Derived.Test.YtgejmeankppmhaaDoorOmayM
import Derived.Deep.DeepCutAuto
import Derived.Deep.CutBlock
namespace Go.Proofs.YtgejmeankppmhaaDoor
open Go.RowKit

/-- Marks with all up to one. -/
def mover (L B low : Nat) : Nat × Nat := if low ≤ L ∨ 4611686018427387840 < low then (L, B) else (low + tro (B >>> (low - L)), (B >>> (low - L)) >>> tro (B >>> (low - L)))
theorem mover_lt (L B low : Nat) (hB : B < 18446744073709551616) : (mover L B low).2 < 18446744073709551616 := by
  unfold mover
  split
  · exact hB
  · exact shr_lt _ _ (shr_lt _ _ hB)
theorem mover_hs (L B low x : Nat) (hB : B < 18446744073709551616) (hl : low ≤ 4611686018427387840) : Hs (mover L B low).1 (mover L B low).2 x = (Hs L B x || decide (x ≤ low)) := by
  unfold mover
  by_cases h : low ≤ L
  · rw [if_pos (.inl h)]
    by_cases hx : x ≤ low
    · rw [hs_low (Nat.le_trans hx h)]; simp
    · simp [hx]
  · rw [if_neg (by omega), hs_settle _ _ _ (shr_lt _ _ hB), hs_over L B low x (by omega)]
theorem mover_gd (L B low : Nat) (hB : B < 18446744073709551616) (hg : Gd L B) : Gd (mover L B low).1 (mover L B low).2 := by
  by_cases h : low ≤ L ∨ 4611686018427387840 < low
  · unfold mover; rw [if_pos h]; exact hg
  · unfold mover
    rw [if_neg h]
    refine gd_settle low _ (shr_lt _ _ hB) fun x hx => ?_
    rw [hs_over L B low x (by omega), Bool.or_eq_true] at hx
    rcases hx with hx | hx
    · exact gd_le hB hg hx
    · have := of_decide_eq_true hx; omega

/-- Two marks together. -/
def mjoin (La Ba Lb Bb : Nat) : Nat × Nat :=
  (max La Lb + tro (Ba >>> (max La Lb - La) ||| Bb >>> (max La Lb - Lb)), (Ba >>> (max La Lb - La) ||| Bb >>> (max La Lb - Lb)) >>> tro (Ba >>> (max La Lb - La) ||| Bb >>> (max La Lb - Lb)))
theorem mjoin_lt (La Ba Lb Bb : Nat) (hA : Ba < 18446744073709551616) (hB : Bb < 18446744073709551616) : (mjoin La Ba Lb Bb).2 < 18446744073709551616 :=
  shr_lt _ _ (or_lt _ _ (shr_lt _ _ hA) (shr_lt _ _ hB))
theorem mjoin_hs (La Ba Lb Bb x : Nat) (hA : Ba < 18446744073709551616) (hB : Bb < 18446744073709551616) : Hs (mjoin La Ba Lb Bb).1 (mjoin La Ba Lb Bb).2 x = (Hs La Ba x || Hs Lb Bb x) := by
  unfold mjoin
  rw [hs_settle _ _ _ (or_lt _ _ (shr_lt _ _ hA) (shr_lt _ _ hB)), hs_join, hs_over La Ba _ x (Nat.le_max_left _ _), hs_over Lb Bb _ x (Nat.le_max_right _ _)]
  by_cases h : x ≤ max La Lb
  · have : Hs La Ba x = true ∨ Hs Lb Bb x = true := by
      rcases Nat.le_total La Lb with h1 | h1
      · exact .inr (hs_low (by omega))
      · exact .inl (hs_low (by omega))
    rcases this with h2 | h2 <;> simp [h, h2]
  · simp [h]
theorem mjoin_gd (La Ba Lb Bb : Nat) (hA : Ba < 18446744073709551616) (hB : Bb < 18446744073709551616) (hga : Gd La Ba) (hgb : Gd Lb Bb) : Gd (mjoin La Ba Lb Bb).1 (mjoin La Ba Lb Bb).2 := by
  unfold mjoin
  refine gd_settle _ _ (or_lt _ _ (shr_lt _ _ hA) (shr_lt _ _ hB)) fun x hx => ?_
  have := mjoin_hs La Ba Lb Bb x hA hB
  unfold mjoin at this
  rw [hs_settle _ _ _ (or_lt _ _ (shr_lt _ _ hA) (shr_lt _ _ hB))] at this
  rw [this, Bool.or_eq_true] at hx
  rcases hx with hx | hx
  · exact gd_le hA hga hx
  · exact gd_le hB hgb hx

end Go.Proofs.YtgejmeankppmhaaDoor

namespace Go.Proofs.YtgejmeankppmhaaDoor
open Go.RowKit

/-- What is to be marked. -/
def Un (La Ba Lb Bb n x : Nat) : Bool := (Hs La Ba x || Hs Lb Bb x) || decide (x = n)
def MadeP (low : Nat) (U : Nat → Bool) (L B : Nat) : Prop :=
  low ≤ L ∧ L ≤ 4611686018427387840 ∧ (∀ x, low < x → x ≤ L → U x = true) ∧ (L < 4611686018427387840 → U (L + 1) = false) ∧ B < 18446744073709551616 ∧ ∀ i, i < 64 → B.testBit i = U (L + 1 + i)

theorem made_eq (low : Nat) (U : Nat → Bool) (L B L2 B2 : Nat) (hm : MadeP low U L B) (hB2 : B2 < 18446744073709551616) (hg : Gd L2 B2) (hh : ∀ x, Hs L2 B2 x = (U x || decide (x ≤ low))) (hU : ∀ x, U x = true → x ≤ low + 64) : L = L2 ∧ B = B2 := by
  obtain ⟨h1, h2, h3, h4, h5, h6⟩ := hm
  have h0 : B.testBit 0 = false := by
    rw [h6 0 (by decide), Nat.add_zero]
    by_cases hl : L < 4611686018427387840
    · exact h4 hl
    · cases hu : U (L + 1)
      · rfl
      · have := gd_le hB2 hg (n := L + 1) (by rw [hh, hu]; rfl)
        omega
  refine hs_uniq L B L2 B2 h0 hg.2.1 fun x => ?_
  rw [hh x]
  by_cases hx : x ≤ L
  · rw [hs_low hx]
    by_cases hl : x ≤ low
    · simp [hl]
    · rw [h3 x (by omega) hx]; rfl
  · have hl : decide (x ≤ low) = false := by simp; omega
    rw [hs_high (by omega), hl, Bool.or_false]
    by_cases hi : x - L - 1 < 64
    · rw [h6 _ hi, show L + 1 + (x - L - 1) = x by omega]
    · rw [high_bit B _ h5 (by omega)]
      cases hu : U x
      · rfl
      · have := hU x hu; omega

theorem add_bit (B i : Nat) (hB : B < 2 ^ i) (j : Nat) : (B + 2 ^ i).testBit j = (B.testBit j || decide (j = i)) := by
  have e := Nat.two_pow_add_eq_or_of_lt hB 1
  rw [Nat.mul_one] at e
  rw [Nat.add_comm, e, Nat.testBit_or, Nat.testBit_two_pow, Bool.or_comm]
  congr 1
  apply decide_eq_decide.2
  omega

/-- What is known in each round of the second loop. -/
def MRel (W wz : World) (U : Nat → Bool) (g l i B : Nat) : Prop :=
  B < 2 ^ i ∧ (∀ j, j < i → B.testBit j = U (l + 1 + j)) ∧ wz.heap[g]? = some (.cells #[.int .u64 (l : Int), .int .u64 (B : Int)] 37 (0, 0)) ∧ Below W.heap.size W wz
theorem mrel_yes {W wz : World} {U : Nat → Bool} {g l i B : Nat} (h : MRel W wz U g l i B) (hu : U (l + 1 + i) = true) : B + 2 ^ i < 2 ^ (i + 1) ∧ (∀ j, j < i + 1 → (B + 2 ^ i).testBit j = U (l + 1 + j)) := by
  refine ⟨by have := h.1; rw [Nat.pow_succ]; omega, fun j hj => ?_⟩
  rw [add_bit B i h.1]
  by_cases hji : j = i
  · subst hji; simp [hu]
  · rw [h.2.1 j (by omega)]; simp [hji]
theorem mrel_no {W wz : World} {U : Nat → Bool} {g l i B : Nat} (h : MRel W wz U g l i B) (hu : U (l + 1 + i) = false) : B < 2 ^ (i + 1) ∧ (∀ j, j < i + 1 → B.testBit j = U (l + 1 + j)) := by
  refine ⟨by have := h.1; rw [Nat.pow_succ]; omega, fun j hj => ?_⟩
  by_cases hji : j = i
  · subst hji; rw [hu]; exact Nat.testBit_lt_two_pow h.1
  · exact h.2.1 j (by omega)
/-- The weight of a bit, doubled. -/
def wt (i : Nat) : Nat := 2 ^ i % 18446744073709551616
theorem wt_lt (i : Nat) (h : i < 64) : wt i = 2 ^ i := Nat.mod_eq_of_lt (pow_lt i h)
theorem wt_next (i : Nat) (h : i < 64) : IntKind.u64.wrap (2 * ((wt i : Nat) : Int)) = ((wt (i + 1) : Nat) : Int) := by
  rw [wt_lt i h, IntKind.wrap_u64]
  unfold wt
  rw [Nat.pow_succ]
  generalize 2 ^ i = p
  omega

set_option maxHeartbeats 2000000 in
theorem made_any (low La Ba Lb Bb n : Nat) (w : World) (hlow : low ≤ 4611686018427387840) (hLa : La < 18446744073709551616) (hBa : Ba < 18446744073709551616) (hLb : Lb < 18446744073709551616) (hBb : Bb < 18446744073709551616) :
    Calls Tryd.prog 51 #[.int .u64 (low : Int), .agg #[.int .u64 (La : Int), .int .u64 (Ba : Int)], .agg #[.int .u64 (Lb : Int), .int .u64 (Bb : Int)], .int .u64 (n : Int)] w fun e w' => ∃ L B : Nat, e = .returned (.agg #[.int .u64 (L : Int), .int .u64 (B : Int)]) ∧ MadeP low (Un La Ba Lb Bb n) L B ∧ Below w.heap.size w w' := by
  have hA := fun W x (hx : x < 18446744073709551616) => rhas_any La Ba x W hLa hBa hx
  have hB := fun W x (hx : x < 18446744073709551616) => rhas_any Lb Bb x W hLb hBb hx
  obtain ⟨W, hW, hWs, r0, r1, r2, hwW⟩ := boxes3 w #[.int .u64 (La : Int), .int .u64 (Ba : Int)] #[.int .u64 (Lb : Int), .int .u64 (Bb : Int)] #[.int .u64 0, .int .u64 0] 37 37 37
  obtain ⟨U, hU⟩ : ∃ U, U = Un La Ba Lb Bb n := ⟨_, rfl⟩
  rw [← hU]
  have HU := Lib.hid hU
  have HLow := Lib.hid hlow
  clear hU hLa hBa hLb hBb hlow
  go_enter Tryd.func51, Tryd.ntmps51
  go_upto_block 0 with (fail)
  rw [← hW]
  clear hW
  go_cut [0] (fun lv wx => ∃ l : Nat, lv = .int .u64 (l : Int) ∧ Hid (low ≤ l ∧ l ≤ 4611686018427387840 ∧ (∀ x, low < x → x ≤ l → U x = true) ∧ (l < 4611686018427387840 → U (l + 1) = false)) ∧ Hid (Below W.heap.size W wx))
  case first =>
    go_wp2_with fail
    go_loopw [0] (fun lr wr => ∃ l : Nat, low ≤ l ∧ Hid (l ≤ 4611686018427387840) ∧ lr = .int .u64 (l : Int) ∧ Hid (∀ x, low < x → x ≤ l → U x = true) ∧ Hid (Below W.heap.size W wr)) (fun lr _ => 4611686018427387840 - (intOf lr).toNat)
    case atStart => exact ⟨low, Nat.le_refl _, HLow, rfl, Lib.hid (fun x h1 h2 => by omega), Lib.hid (Below.refl _ _)⟩
    case round =>
      obtain ⟨l, hl1, hl2, rfl, HL, HBl⟩ := hrel
      have hbl := HBl.out
      have k0 := cellz (j := 0) (u := .int .u64 (La : Int)) hbl r0 rfl
      have k1 := cellz (j := 1) (u := .int .u64 (Ba : Int)) hbl r0 rfl
      have k2 := cellz (j := 0) (u := .int .u64 (Lb : Int)) hbl r1 rfl
      have k3 := cellz (j := 1) (u := .int .u64 (Bb : Int)) hbl r1 rfl
      have hsz := hbl.size
      have hsz1 : w.heap.size + 1 < wr.heap.size := by omega
      clear hbl
      by_cases hlt : l < 4611686018427387840
      · have hl2' := hl2.out
        have hA' := fun W => hA W (l + 1) (by omega)
        have hB' := fun W => hB W (l + 1) (by omega)
        have d1 : decide ((l : Int) < 4611686018427387840) = true := by simp; omega
        have e1 : IntKind.u64.wrap ((l : Int) + 1) = (l : Int) + 1 := u64w _ (by omega) (by omega)
        have HLT := Lib.hid hlt
        clear hl2' hlt
        have hUx : U (l + 1) = ((Hs La Ba (l + 1) || Hs Lb Bb (l + 1)) || decide (l + 1 = n)) := by rw [HU.out]; rfl
        generalize Hs La Ba (l + 1) = P at *
        generalize Hs Lb Bb (l + 1) = Q at *
        rw [show ((l + 1 : Nat) : Int) = (l : Int) + 1 by omega] at hA' hB'
        cases P
        · cases Q
          · by_cases hn : l + 1 = n
            · have hUt : U (l + 1) = true := by rw [hUx]; simp [hn]
              have HUX := Lib.hid hUt
              have d2 : ((l : Int) + 1 == (n : Int)) = true := by simp; omega
              clear hUx hUt hn
              go_wp2_with (go_at_call 28; first
                | ((with_reducible refine (hA' _).mono ?_); rintro e w3 ⟨rfl, hb3⟩
                   have k2 := kept hb3 k2 hsz1
                   have k3 := kept hb3 k3 hsz1)
                | ((with_reducible refine (hB' _).mono ?_); rintro e w4 ⟨rfl, hb4⟩))
              go_roundw
              case rel => exact ⟨l + 1, by omega, Lib.hid (by have := HLT.out; omega), by go_num, Lib.hid (fun x h1 h2 => by
                by_cases hx : x = l + 1
                · subst hx; exact HUX.out
                · exact HL.out x h1 (by omega)), Lib.hid (HBl.out.trans ((hb3.trans (hb4.mono hb3.size)).mono HBl.out.size))⟩
              case measure => have := HLT.out; simp [intOf]; omega
            · have hUf : U (l + 1) = false := by rw [hUx]; simp [hn]
              have HUF := Lib.hid hUf
              have d2 : ((l : Int) + 1 == (n : Int)) = false := by simp; omega
              clear hUx hUf hn
              go_wp2_with (go_at_call 28; first
                | ((with_reducible refine (hA' _).mono ?_); rintro e w3 ⟨rfl, hb3⟩
                   have k2 := kept hb3 k2 hsz1
                   have k3 := kept hb3 k3 hsz1)
                | ((with_reducible refine (hB' _).mono ?_); rintro e w4 ⟨rfl, hb4⟩))
              go_meet
              case rel => exact ⟨l, rfl, Lib.hid ⟨hl1, hl2.out, HL.out, fun _ => HUF.out⟩, Lib.hid (HBl.out.trans ((hb3.trans (hb4.mono hb3.size)).mono HBl.out.size))⟩
          · have HUX := Lib.hid (show U (l + 1) = true by rw [hUx]; rfl)
            clear hUx
            go_wp2_with (go_at_call 28; first
              | ((with_reducible refine (hA' _).mono ?_); rintro e w3 ⟨rfl, hb3⟩
                 have k2 := kept hb3 k2 hsz1
                 have k3 := kept hb3 k3 hsz1)
              | ((with_reducible refine (hB' _).mono ?_); rintro e w4 ⟨rfl, hb4⟩))
            go_roundw
            case rel => exact ⟨l + 1, by omega, Lib.hid (by have := HLT.out; omega), by go_num, Lib.hid (fun x h1 h2 => by
              by_cases hx : x = l + 1
              · subst hx; exact HUX.out
              · exact HL.out x h1 (by omega)), Lib.hid (HBl.out.trans ((hb3.trans (hb4.mono hb3.size)).mono HBl.out.size))⟩
            case measure => have := HLT.out; simp [intOf]; omega
        · have HUX := Lib.hid (show U (l + 1) = true by rw [hUx]; rfl)
          clear hUx
          go_wp2_with (go_at_call 28; first
            | ((with_reducible refine (hA' _).mono ?_); rintro e w3 ⟨rfl, hb3⟩
               have k2 := kept hb3 k2 hsz1
               have k3 := kept hb3 k3 hsz1)
            | ((with_reducible refine (hB' _).mono ?_); rintro e w4 ⟨rfl, hb4⟩))
          go_roundw
          case rel => exact ⟨l + 1, by omega, Lib.hid (by have := HLT.out; omega), by go_num, Lib.hid (fun x h1 h2 => by
            by_cases hx : x = l + 1
            · subst hx; exact HUX.out
            · exact HL.out x h1 (by omega)), Lib.hid (HBl.out.trans (hb3.mono HBl.out.size))⟩
          case measure => have := HLT.out; simp [intOf]; omega
      · have d1 : decide ((l : Int) < 4611686018427387840) = false := by simp; omega
        have HLT := Lib.hid hlt
        clear hlt
        go_wp2_with fail
        go_meet
        case rel => exact ⟨l, rfl, Lib.hid ⟨hl1, hl2.out, HL.out, fun h => absurd h HLT.out⟩, HBl⟩
  case rest =>
    obtain ⟨l, rfl, HL, HX⟩ := hcut
    generalize wc = X at *
    go_wp2_with fail
    have hXs := HX.out.size
    have hWX : W.heap.size ≤ X.heap.size := hXs
    go_loopw [10, 11] (fun pr kr wz => ∃ i B' : Nat, i ≤ 64 ∧ kr = .int .u64 (i : Int) ∧ pr = .int .u64 ((wt i : Nat) : Int) ∧ Hid (MRel W wz U X.heap.size l i B')) (fun _ kr _ => 64 - (intOf kr).toNat)
    case atStart => exact ⟨0, 0, Nat.zero_le _, rfl, rfl, Lib.hid ⟨by decide, fun j h => absurd h (by omega), row_here X _ rfl, HX.out.alloc hWX _⟩⟩
    case round =>
      obtain ⟨i, B', hi, rfl, rfl, HM⟩ := hrel
      obtain ⟨hm1, hm2, hm3, hm4⟩ := HM.out
      have k0 := cellz (j := 0) (u := .int .u64 (La : Int)) hm4 r0 rfl
      have k1 := cellz (j := 1) (u := .int .u64 (Ba : Int)) hm4 r0 rfl
      have k2 := cellz (j := 0) (u := .int .u64 (Lb : Int)) hm4 r1 rfl
      have k3 := cellz (j := 1) (u := .int .u64 (Bb : Int)) hm4 r1 rfl
      have hszX : X.heap.size < wr.heap.size := (Array.getElem?_eq_some_iff.1 hm3).1
      have hsz1 : w.heap.size + 1 < wr.heap.size := by omega
      have c0 := cell_of_row wr _ 0 _ _ _ hm3
      have c1 := cell_of_row wr _ 1 _ _ _ hm3
      simp at c0 c1
      have HRow := Lib.hid hm3
      have HBz := Lib.hid hm4
      have hl2 := HL.out.2.1
      have e1 : IntKind.u64.wrap ((l : Int) + 1) = (l : Int) + 1 := u64w _ (by omega) (by omega)
      have e2 : IntKind.u64.wrap ((l : Int) + 1 + (i : Int)) = (l : Int) + 1 + (i : Int) := u64w _ (by omega) (by omega)
      by_cases hlt : i < 64
      · have hA' := fun W => hA W (l + 1 + i) (by omega)
        have hB' := fun W => hB W (l + 1 + i) (by omega)
        have hp64 := pow_lt i hlt
        have hwl := wt_lt i hlt
        have hw2 := wt_next i hlt
        have hUx : U (l + 1 + i) = ((Hs La Ba (l + 1 + i) || Hs Lb Bb (l + 1 + i)) || decide (l + 1 + i = n)) := by rw [HU.out]; rfl
        have e3 : IntKind.u64.wrap ((B' : Int) + ((wt i : Nat) : Int)) = (B' : Int) + ((wt i : Nat) : Int) := u64w _ (by omega) (by
          have : B' + 2 ^ i < 2 ^ (i + 1) := by rw [Nat.pow_succ]; omega
          have h2 : 2 ^ (i + 1) ≤ 2 ^ 64 := Nat.pow_le_pow_right (by decide) (by omega)
          omega)
        have hz0 := Lib.hid True.intro
        have d1 : decide ((i : Int) < 64) = true := by simp; omega
        generalize Hs La Ba (l + 1 + i) = P at *
        generalize Hs Lb Bb (l + 1 + i) = Q at *
        rw [show ((l + 1 + i : Nat) : Int) = (l : Int) + 1 + (i : Int) by omega] at hA' hB'
        have HP := Lib.hid hwl
        have HW2 := Lib.hid hw2
        generalize hp : wt i = p at *
        clear hp hp64 hwl hm1 hm2 hm3 hm4 hl2
        cases P
        · cases Q
          · by_cases hn : l + 1 + i = n
            · have HUX := Lib.hid (show U (l + 1 + i) = true by rw [hUx]; simp [hn])
              have d2 : ((l : Int) + 1 + (i : Int) == (n : Int)) = true := by simp; omega
              clear hUx hn
              go_wp2_with (go_at_call 28; first
                | ((with_reducible refine (hA' _).mono ?_); rintro e w3 ⟨rfl, hb3⟩
                   have k2 := kept hb3 k2 hsz1
                   have k3 := kept hb3 k3 hsz1
                   have c0 := kept hb3 c0 hszX
                   have c1 := kept hb3 c1 hszX
                   have hz3 := Lib.hid (HBz.out.trans (hb3.mono HBz.out.size))
                   have hr3 := Lib.hid ((hb3.block _ hszX).trans HRow.out)
                   have z1 := frozen_of_row w3 _ 1 _ _ hr3.out
                   have hsX3 := Nat.lt_of_lt_of_le hszX hb3.size)
                | ((with_reducible refine (hB' _).mono ?_); rintro e w4 ⟨rfl, hb4⟩
                   have c0 := kept hb4 c0 hsX3
                   have c1 := kept hb4 c1 hsX3
                   have hz4 := Lib.hid (hz3.out.trans (hb4.mono hz3.out.size))
                   have hr4 := Lib.hid ((hb4.block _ hsX3).trans hr3.out)
                   have z1 := frozen_of_row w4 _ 1 _ _ hr4.out))
              go_roundw
              case rel =>
                have hy := mrel_yes HM.out HUX.out
                refine ⟨i + 1, B' + 2 ^ i, by omega, by go_num, by rw [← HW2.out], Lib.hid ⟨hy.1, hy.2, ?_, ?_⟩⟩
                · have := heap_setCell_same _ _ 1 _ _ (.int .u64 ((B' : Int) + (p : Int))) hr4.out
                  rw [this, show ((B' + 2 ^ i : Nat) : Int) = (B' : Int) + (p : Int) by rw [HP.out]; omega]
                  rfl
                · exact hz4.out.setCell hWX _
              case measure => simp [intOf]; omega
            · have HUX := Lib.hid (show U (l + 1 + i) = false by rw [hUx]; simp [hn])
              have d2 : ((l : Int) + 1 + (i : Int) == (n : Int)) = false := by simp; omega
              clear hUx hn
              go_wp2_with (go_at_call 28; first
                | ((with_reducible refine (hA' _).mono ?_); rintro e w3 ⟨rfl, hb3⟩
                   have k2 := kept hb3 k2 hsz1
                   have k3 := kept hb3 k3 hsz1
                   have c0 := kept hb3 c0 hszX
                   have c1 := kept hb3 c1 hszX
                   have hz3 := Lib.hid (HBz.out.trans (hb3.mono HBz.out.size))
                   have hr3 := Lib.hid ((hb3.block _ hszX).trans HRow.out)
                   have z1 := frozen_of_row w3 _ 1 _ _ hr3.out
                   have hsX3 := Nat.lt_of_lt_of_le hszX hb3.size)
                | ((with_reducible refine (hB' _).mono ?_); rintro e w4 ⟨rfl, hb4⟩
                   have c0 := kept hb4 c0 hsX3
                   have c1 := kept hb4 c1 hsX3
                   have hz4 := Lib.hid (hz3.out.trans (hb4.mono hz3.out.size))
                   have hr4 := Lib.hid ((hb4.block _ hsX3).trans hr3.out)
                   have z1 := frozen_of_row w4 _ 1 _ _ hr4.out))
              go_roundw
              case rel =>
                have hy := mrel_no HM.out HUX.out
                exact ⟨i + 1, B', by omega, by go_num, by rw [← HW2.out], Lib.hid ⟨hy.1, hy.2, hr4.out, hz4.out⟩⟩
              case measure => simp [intOf]; omega
          · have HUX := Lib.hid (show U (l + 1 + i) = true by rw [hUx]; rfl)
            clear hUx
            go_wp2_with (go_at_call 28; first
              | ((with_reducible refine (hA' _).mono ?_); rintro e w3 ⟨rfl, hb3⟩
                 have k2 := kept hb3 k2 hsz1
                 have k3 := kept hb3 k3 hsz1
                 have c0 := kept hb3 c0 hszX
                 have c1 := kept hb3 c1 hszX
                 have hz3 := Lib.hid (HBz.out.trans (hb3.mono HBz.out.size))
                 have hr3 := Lib.hid ((hb3.block _ hszX).trans HRow.out)
                 have z1 := frozen_of_row w3 _ 1 _ _ hr3.out
                 have hsX3 := Nat.lt_of_lt_of_le hszX hb3.size)
              | ((with_reducible refine (hB' _).mono ?_); rintro e w4 ⟨rfl, hb4⟩
                 have c0 := kept hb4 c0 hsX3
                 have c1 := kept hb4 c1 hsX3
                 have hz4 := Lib.hid (hz3.out.trans (hb4.mono hz3.out.size))
                 have hr4 := Lib.hid ((hb4.block _ hsX3).trans hr3.out)
                 have z1 := frozen_of_row w4 _ 1 _ _ hr4.out))
            go_roundw
            case rel =>
              have hy := mrel_yes HM.out HUX.out
              refine ⟨i + 1, B' + 2 ^ i, by omega, by go_num, by rw [← HW2.out], Lib.hid ⟨hy.1, hy.2, ?_, ?_⟩⟩
              · have := heap_setCell_same _ _ 1 _ _ (.int .u64 ((B' : Int) + (p : Int))) hr4.out
                rw [this, show ((B' + 2 ^ i : Nat) : Int) = (B' : Int) + (p : Int) by rw [HP.out]; omega]
                rfl
              · exact hz4.out.setCell hWX _
            case measure => simp [intOf]; omega
        · have HUX := Lib.hid (show U (l + 1 + i) = true by rw [hUx]; rfl)
          clear hUx
          go_wp2_with (go_at_call 28; first
            | ((with_reducible refine (hA' _).mono ?_); rintro e w3 ⟨rfl, hb3⟩
               have k2 := kept hb3 k2 hsz1
               have k3 := kept hb3 k3 hsz1
               have c0 := kept hb3 c0 hszX
               have c1 := kept hb3 c1 hszX
               have hz3 := Lib.hid (HBz.out.trans (hb3.mono HBz.out.size))
               have hr3 := Lib.hid ((hb3.block _ hszX).trans HRow.out)
               have z1 := frozen_of_row w3 _ 1 _ _ hr3.out
               have hsX3 := Nat.lt_of_lt_of_le hszX hb3.size)
            | ((with_reducible refine (hB' _).mono ?_); rintro e w4 ⟨rfl, hb4⟩
               have c0 := kept hb4 c0 hsX3
               have c1 := kept hb4 c1 hsX3
               have hz4 := Lib.hid (hz3.out.trans (hb4.mono hz3.out.size))
               have hr4 := Lib.hid ((hb4.block _ hsX3).trans hr3.out)
               have z1 := frozen_of_row w4 _ 1 _ _ hr4.out))
          go_roundw
          case rel =>
            have hy := mrel_yes HM.out HUX.out
            refine ⟨i + 1, B' + 2 ^ i, by omega, by go_num, by rw [← HW2.out], Lib.hid ⟨hy.1, hy.2, ?_, ?_⟩⟩
            · have := heap_setCell_same _ _ 1 _ _ (.int .u64 ((B' : Int) + (p : Int))) hr3.out
              rw [this, show ((B' + 2 ^ i : Nat) : Int) = (B' : Int) + (p : Int) by rw [HP.out]; omega]
              rfl
            · exact hz3.out.setCell hWX _
          case measure => simp [intOf]; omega
      · have d1 : decide ((i : Int) < 64) = false := by simp; omega
        have hi64 : i = 64 := by omega
        have q0 := cellz (j := 0) (u := .int .u64 0) hm4 r2 rfl
        have q1 := cellz (j := 1) (u := .int .u64 0) hm4 r2 rfl
        have y0 := frozenz hm4 0 r2
        have y1 := frozenz hm4 1 r2
        have hMade : MadeP low U l B' := ⟨HL.out.1, HL.out.2.1, HL.out.2.2.1, HL.out.2.2.2, by rw [hi64] at hm1; exact hm1, fun j hj => hm2 j (by omega)⟩
        have HMd := Lib.hid hMade
        clear hMade hm1 hm2 hm3 hm4 hl2 hlt
        go_wp2
        exact bodyPost_ret (v := .agg #[.int .u64 (l : Int), .int .u64 (B' : Int)]) (by simp [results, Tryd.results51, go_sem, q0, q1]) rfl ⟨l, B', rfl, HMd.out, hwW.trans ((((show Below (w.heap.size + 2) W wr from HBz.out.mono (by omega)).setCell (Nat.le_refl _) _).setCell (Nat.le_refl _) _).mono (by omega))⟩

/-- What the reference makes, where it is known what settled marks mark the same. -/
theorem made_is (low La Ba Lb Bb n L2 B2 : Nat) (w : World) (hlow : low ≤ 4611686018427387840) (hLa : La < 18446744073709551616) (hBa : Ba < 18446744073709551616) (hLb : Lb < 18446744073709551616) (hBb : Bb < 18446744073709551616)
    (hB2 : B2 < 18446744073709551616) (hg : Gd L2 B2) (hh : ∀ x, Hs L2 B2 x = (Un La Ba Lb Bb n x || decide (x ≤ low))) (hU : ∀ x, Un La Ba Lb Bb n x = true → x ≤ low + 64) :
    Calls Tryd.prog 51 #[.int .u64 (low : Int), .agg #[.int .u64 (La : Int), .int .u64 (Ba : Int)], .agg #[.int .u64 (Lb : Int), .int .u64 (Bb : Int)], .int .u64 (n : Int)] w fun e w' => e = .returned (.agg #[.int .u64 (L2 : Int), .int .u64 (B2 : Int)]) ∧ Below w.heap.size w w' :=
  (made_any low La Ba Lb Bb n w hlow hLa hBa hLb hBb).mono fun e w' ⟨L, B, he, hm, hb⟩ => by
    obtain ⟨rfl, rfl⟩ := made_eq low _ L B L2 B2 hm hB2 hg hh hU
    exact ⟨he, hb⟩

theorem hs_room {L B x : Nat} (hB : B < 18446744073709551616) (h : Hs L B x = true) : x ≤ L + 64 := Nat.le_trans (hs_top L B x hB h) (by unfold top; have := bl_le B hB; omega)

set_option maxHeartbeats 1000000 in
theorem rset_ok (L B n : Nat) (w : World) (hB : B < 18446744073709551616) (hg : Gd L B) (hr : Room L n) :
    Calls Tryd.prog 29 #[.agg #[.int .u64 (L : Int), .int .u64 (B : Int)], .int .u64 (n : Int)] w fun e w' => e = .returned (.tuple #[.agg #[.int .u64 ((mset L B n).1 : Int), .int .u64 ((mset L B n).2 : Int)], .int .i64 0]) ∧ Below w.heap.size w w' := by
  have hL := hg.1
  obtain ⟨hn, hn2⟩ := hr
  have hm := fun W => made_is L L B L B n (mset L B n).1 (mset L B n).2 W hL (by omega) hB (by omega) hB (mset_lt L B n hB ⟨hn, hn2⟩) (mset_gd L B n hB ⟨hn, hn2⟩ hg)
    (fun x => by
      rw [mset_hs L B n x hB ⟨hn, hn2⟩]
      unfold Un
      by_cases hx : x ≤ L
      · rw [hs_low hx]; simp
      · simp [hx])
    (fun x hx => by
      unfold Un at hx
      simp only [Bool.or_self, Bool.or_eq_true, decide_eq_true_eq] at hx
      rcases hx with hx | hx
      · exact hs_room hB hx
      · omega)
  have d1 : decide ((L : Int) + 64 < (n : Int)) = false := by simp; omega
  have d2 : decide ((4611686018427387840 : Int) < (n : Int)) = false := by simp; omega
  have e1 : IntKind.u64.wrap ((L : Int) + 64) = (L : Int) + 64 := u64w _ (by omega) (by omega)
  generalize mset L B n = p at *
  obtain ⟨p1, p2⟩ := p
  simp only at hm
  obtain ⟨W, hW, hWs, r0, r1, hwW⟩ := boxes2 w #[.int .u64 (L : Int), .int .u64 (B : Int)] #[.int .u64 0, .int .u64 0] 37 37
  clear hg hL hn hn2 hB
  go_enter Tryd.func29, Tryd.ntmps29
  go_wp2_with fail
  refine (hm _).mono ?_
  rintro e w1 ⟨rfl, hb1⟩
  rw [← hW] at hb1
  have c0 := cellz (j := 0) (u := .int .u64 0) hb1 r1 rfl
  have c1 := cellz (j := 1) (u := .int .u64 0) hb1 r1 rfl
  have z0 := frozenz hb1 0 r1
  have z1 := frozenz hb1 1 r1
  go_wp2
  exact bodyPost_ret (v := .tuple #[.agg #[.int .u64 (p1 : Int), .int .u64 (p2 : Int)], .int .i64 0]) (by simp [results, Tryd.results29, go_sem, c0, c1]) rfl ⟨rfl, hwW.trans ((((show Below (w.heap.size + 1) W w1 from hb1.mono (by omega)).setCell (Nat.le_refl _) _).setCell (Nat.le_refl _) _).mono (by omega))⟩

set_option maxHeartbeats 1000000 in
theorem rset_no (L B n : Nat) (w : World) (hL : L ≤ 4611686018427387840) (hn4 : n < 18446744073709551616) (hr : ¬ Room L n) :
    Calls Tryd.prog 29 #[.agg #[.int .u64 (L : Int), .int .u64 (B : Int)], .int .u64 (n : Int)] w fun e w' => e = .returned (.tuple #[.agg #[.int .u64 (L : Int), .int .u64 (B : Int)], .int .i64 30]) ∧ Below w.heap.size w w' := by
  have e1 : IntKind.u64.wrap ((L : Int) + 64) = (L : Int) + 64 := u64w _ (by omega) (by omega)
  by_cases h1 : L + 64 < n
  · have d1 : decide ((L : Int) + 64 < (n : Int)) = true := by simp; omega
    clear hr h1 hL hn4
    go_enter Tryd.func29, Tryd.ntmps29
    go_wp2
    exact bodyPost_ret (v := .tuple #[.agg #[.int .u64 (L : Int), .int .u64 (B : Int)], .int .i64 30]) (by simp [results, Tryd.results29, go_sem]) rfl ⟨rfl, ((Below.refl _ _).alloc (Nat.le_refl _) _).alloc (by simp) _⟩
  · have h2 : ¬ n ≤ 4611686018427387840 := fun h => hr ⟨h, by omega⟩
    have d1 : decide ((L : Int) + 64 < (n : Int)) = false := by simp; omega
    have d2 : decide ((4611686018427387840 : Int) < (n : Int)) = true := by simp; omega
    clear hr h1 h2 hL hn4
    go_enter Tryd.func29, Tryd.ntmps29
    go_wp2
    exact bodyPost_ret (v := .tuple #[.agg #[.int .u64 (L : Int), .int .u64 (B : Int)], .int .i64 30]) (by simp [results, Tryd.results29, go_sem]) rfl ⟨rfl, ((Below.refl _ _).alloc (Nat.le_refl _) _).alloc (by simp) _⟩

end Go.Proofs.YtgejmeankppmhaaDoor

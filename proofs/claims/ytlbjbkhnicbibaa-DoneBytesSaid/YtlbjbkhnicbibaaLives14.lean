/- The chapter's example. -/
import Derived.Test.YtlbjbkhnicbibaaRaddn
namespace Go.Proofs.Ytlbjbkhnicbibaa
open Go.RowKit

theorem t0_ok' : Tok T0 := ⟨rfl, fun p hp => by have := List.eq_of_mem_replicate hp; subst this; exact ⟨by decide, by decide⟩⟩
set_option maxRecDepth 20000 in
set_option maxHeartbeats 2000000 in
theorem lives14 (w : World) : Calls Try.prog 14 #[] w fun e w' => e = .returned (.bool true) ∧ Below w.heap.size w w' := by
  obtain ⟨T1, h1⟩ : ∃ T, T = addT T0 2 5 := ⟨_, rfl⟩
  obtain ⟨T2, h2⟩ : ∃ T, T = addT T1 2 3 := ⟨_, rfl⟩
  obtain ⟨T3, h3⟩ : ∃ T, T = addT T2 2 30 := ⟨_, rfl⟩
  have k1 : Tok T1 := by rw [h1]; exact addT_ok t0_ok' 2 5 (by decide)
  have k2 : Tok T2 := by rw [h2]; exact addT_ok k1 2 3 (by decide)
  have k3 : Tok T3 := by rw [h3]; exact addT_ok k2 2 30 (by decide)
  have a1 := fun W => add8_any T0 2 5 W t0_ok' (by decide)
  have a2 := fun W => add8_any T1 2 3 W k1 (by decide)
  have a3 := fun W => add8_any T2 2 30 W k2 (by decide)
  have q1 := fun W => has8_any T2 2 3 W k2 (by decide)
  have q2 := fun W => has8_any T2 2 5 W k2 (by decide)
  have q3 := fun W => has8_any T2 2 4 W k2 (by decide)
  have q4 := fun W => old8_any T3 2 3 W k3
  have q5 := fun W => old8_any T3 2 5 W k3
  have q6 := fun W => has8_any T3 2 30 W k3 (by decide)
  rw [← h1, show (!decide (T1 = T0)) = true by rw [h1]; decide] at a1
  rw [← h2, show (!decide (T2 = T1)) = true by rw [h2, h1]; decide] at a2
  rw [← h3, show (!decide (T3 = T2)) = true by rw [h3, h2, h1]; decide] at a3
  rw [show (at8 T2 2 fun p => hasN p 3) = true by rw [h2, h1]; decide] at q1
  rw [show (at8 T2 2 fun p => hasN p 5) = true by rw [h2, h1]; decide] at q2
  rw [show (at8 T2 2 fun p => hasN p 4) = false by rw [h2, h1]; decide] at q3
  rw [show (at8 T3 2 fun p => oldN p.1 3) = true by rw [h3, h2, h1]; decide] at q4
  rw [show (at8 T3 2 fun p => oldN p.1 5) = true by rw [h3, h2, h1]; decide] at q5
  rw [show (at8 T3 2 fun p => hasN p 30) = true by rw [h3, h2, h1]; decide] at q6
  have L1 := Lib.hid k1.1
  have L2 := Lib.hid k2.1
  have L3 := Lib.hid k3.1
  have A1 := Lib.hid a1
  have A2 := Lib.hid a2
  have A3 := Lib.hid a3
  have Q1 := Lib.hid q1
  have Q2 := Lib.hid q2
  have Q3 := Lib.hid q3
  have Q4 := Lib.hid q4
  have Q5 := Lib.hid q5
  have Q6 := Lib.hid q6
  clear a1 a2 a3 q1 q2 q3 q4 q5 q6 h1 h2 h3 k1 k2 k3
  go_enter Try.func14, Try.ntmps14
  go_wp2_with (first
    | (refine tabA.wpBuild (o := ⟨some 7, _, _, _, _, _⟩) rfl rfl ?_)
    | fail)
  refine (A1.out _).mono ?_
  rintro e w1 ⟨rfl, hb1⟩
  go_wp2_with (first
    | (refine tabA.wpNew (o := ⟨some 1, _, _, _, _, _⟩) rfl rfl ?_; intro W1 b1 hN; obtain ⟨hb1', hr1, hl1, hz1⟩ := hN)
    | (refine tabA.wpStore rfl (.tmp 1) (.tmp 9) rfl rfl rfl hr1.out rfl L1.out ?_; intro W2 hr2 hg2 hz2)
    | (refine tabA.wpLoad (o := ⟨some 12, _, _, _, _, _⟩) rfl (.tmp 1) rfl rfl hr2.out L1.out ?_)
    | fail)
  have hb2 : Below w.heap.size w W2 := (hb1.trans (hl1.mono hb1.size)).grown hg2 (Nat.le_trans hb1.size hl1.size) (fun k e => by cases e; have := hb1'.out; have := hb1.size; omega)
  have hle : w.heap.size ≤ b1 := by have := hb1'.out; have := hb1.size; omega
  have HB2 := Lib.hid hb2
  clear hb1 hb1' hr1 hl1 hz1 hg2 hz2 hb2
  refine (A2.out _).mono ?_
  rintro e w3 ⟨rfl, hb3⟩
  have hr3 := Lib.hid (row_below hr2.out hb3)
  have HB3 := Lib.hid (HB2.out.trans (hb3.mono HB2.out.size))
  clear hb3 hr2
  go_wp2_with (first
    | (refine tabA.wpStore rfl (.tmp 1) (.tmp 14) rfl rfl rfl hr3.out L1.out L2.out ?_; intro W4 hr4 hg4 hz4)
    | (refine tabA.wpLoad (o := ⟨some 17, _, _, _, _, _⟩) rfl (.tmp 1) rfl rfl hr4.out L2.out ?_)
    | fail)
  have HB4 := Lib.hid (HB3.out.grown hg4 HB3.out.size (fun k e => by cases e; exact hle))
  clear hg4 hz4 hr3
  refine (A3.out _).mono ?_
  rintro e w5 ⟨rfl, hb5⟩
  have hr5 := Lib.hid (row_below hr4.out hb5)
  have HB5 := Lib.hid (HB4.out.trans (hb5.mono HB4.out.size))
  clear hb5 hr4
  go_wp2_with (first
    | (refine tabA.wpNew (o := ⟨some 4, _, _, _, _, _⟩) rfl rfl ?_; intro W6 b4 hN; obtain ⟨hb4, hr6, hl6, hz6⟩ := hN
       have h16 := Lib.hid (row_below hr5.out hl6))
    | (refine tabA.wpStore rfl (.tmp 4) (.tmp 19) rfl rfl rfl hr6.out rfl L3.out ?_; intro W7 hr7 hg7 hz7
       have h17 := Lib.hid (row_far h16.out hg7 (fun e => by have := Option.some.inj e; have := hb4.out; have := (Array.getElem?_eq_some_iff.1 hr5.out).1; omega))
       have HB7 := Lib.hid ((HB5.out.trans (hl6.mono HB5.out.size)).grown hg7 (Nat.le_trans HB5.out.size hl6.size) (fun k e => by cases e; have := hb4.out; have := HB5.out.size; omega))
       clear hg7 hz7 hl6 hz6 hb4 hr6 h16)
    | (refine tabA.wpLoadw (o := ⟨some 29, _, _, _, _, _⟩) rfl (.tmp 1) rfl rfl h17.out L2.out ?_)
    | fail)
  refine (Q1.out _).mono ?_
  rintro e w8 ⟨rfl, hb8⟩
  have h18 := Lib.hid (row_below h17.out hb8)
  have h48 := Lib.hid (row_below hr7.out hb8)
  have HB8 := Lib.hid (HB7.out.trans (hb8.mono HB7.out.size))
  clear hb8
  go_wp2_with (first
    | (refine tabA.wpLoadw (o := ⟨some 33, _, _, _, _, _⟩) rfl (.tmp 1) rfl rfl h18.out L2.out ?_)
    | fail)
  refine (Q2.out _).mono ?_
  rintro e w9 ⟨rfl, hb9⟩
  have h19 := Lib.hid (row_below h18.out hb9)
  have h49 := Lib.hid (row_below h48.out hb9)
  have HB9 := Lib.hid (HB8.out.trans (hb9.mono HB8.out.size))
  clear hb9
  go_wp2_with (first
    | (refine tabA.wpLoadw (o := ⟨some 37, _, _, _, _, _⟩) rfl (.tmp 1) rfl rfl h19.out L2.out ?_)
    | fail)
  refine (Q3.out _).mono ?_
  rintro e w10 ⟨rfl, hb10⟩
  have h110 := Lib.hid (row_below h19.out hb10)
  have h410 := Lib.hid (row_below h49.out hb10)
  have HB10 := Lib.hid (HB9.out.trans (hb10.mono HB9.out.size))
  clear hb10
  go_wp2_with (first
    | (refine tabA.wpLoadw (o := ⟨some 42, _, _, _, _, _⟩) rfl (.tmp 4) rfl rfl h410.out L3.out ?_)
    | fail)
  refine (Q4.out _).mono ?_
  rintro e w11 ⟨rfl, hb11⟩
  have h111 := Lib.hid (row_below h110.out hb11)
  have h411 := Lib.hid (row_below h410.out hb11)
  have HB11 := Lib.hid (HB10.out.trans (hb11.mono HB10.out.size))
  clear hb11
  go_wp2_with (first
    | (refine tabA.wpLoadw (o := ⟨some 46, _, _, _, _, _⟩) rfl (.tmp 4) rfl rfl h411.out L3.out ?_)
    | fail)
  refine (Q5.out _).mono ?_
  rintro e w12 ⟨rfl, hb12⟩
  have h112 := Lib.hid (row_below h111.out hb12)
  have h412 := Lib.hid (row_below h411.out hb12)
  have HB12 := Lib.hid (HB11.out.trans (hb12.mono HB11.out.size))
  clear hb12
  go_wp2_with (first
    | (refine tabA.wpLoadw (o := ⟨some 50, _, _, _, _, _⟩) rfl (.tmp 4) rfl rfl h412.out L3.out ?_)
    | fail)
  refine (Q6.out _).mono ?_
  rintro e w13 ⟨rfl, hb13⟩
  have h113 := Lib.hid (row_below h112.out hb13)
  have h413 := Lib.hid (row_below h412.out hb13)
  have HB13 := Lib.hid (HB12.out.trans (hb13.mono HB12.out.size))
  clear hb13
  go_wp2
  go_ret
  exact ⟨rfl, HB13.out⟩

end Go.Proofs.Ytlbjbkhnicbibaa

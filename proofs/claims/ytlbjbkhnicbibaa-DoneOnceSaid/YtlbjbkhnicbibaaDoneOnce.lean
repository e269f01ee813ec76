/- DoneOnce: what was done is not done once more: only what is neither done nor old changes a table, and it is done then. -/
import Derived.Test.YtlbjbkhnicbibaaLives14
import Derived.Test.YtlbjbkhnicbibaaTq
import Derived.Test.YtlbjbkhnicbibaaDect
namespace Go.Proofs.Ytlbjbkhnicbibaa
open Go.RowKit

set_option maxRecDepth 20000 in
set_option maxHeartbeats 4000000 in
theorem once_has (T : List Cl) (c r : Nat) (w : World) (hT : Tok T) (hr : r < 18446744073709551616) (he : addT T c r = T) (h8 : 1 ≤ c ∧ c ≤ 8) (hh : hasN (T.getD (c - 1) (0, 0)) r = true) :
    Calls Try.prog 6 #[tbv T, .int .u64 (c : Int), .int .u64 (r : Int)] w fun e w' => e = .returned (.bool true) ∧ Below w.heap.size w w' := by
  have ca := fun W => add8_any T c r W hT hr
  rw [show (!decide (addT T c r = T)) = false by simp [he], he] at ca
  have ch := fun W => has8_any T c r W hT hr
  have co := fun W => old8_any T c r W hT
  rw [at8_in h8, hh] at ch
  clear h8 hh
  have CA := Lib.hid ca
  have CH := Lib.hid ch
  have CO := Lib.hid co
  have HT := Lib.hid hT.1
  clear ca ch co hT he hr
  go_enter Try.func6, Try.ntmps6
  go_wp2_with (first
    | (refine wpL_tbox rfl (.tmp 0) rfl rfl ?_; intro W0 b3 hN; obtain ⟨hb3, hr3, hl3, hz3⟩ := hN)
    | (refine tabA.wpLoad (o := ⟨some 12, _, _, _, _, _⟩) rfl (.tmp 3) rfl rfl hr3.out HT.out ?_)
    | fail)
  refine (CA.out _).mono ?_
  rintro e w1 ⟨rfl, hb1⟩
  have e3 := Lib.hid (row_below hr3.out hb1)
  have HB1 := Lib.hid (hl3.trans (hb1.mono hl3.size))
  clear hr3 hb1 hl3 hz3
  go_wp2_with (first
    | (refine tabA.wpNew (o := ⟨some 7, _, _, _, _, _⟩) rfl rfl ?_; intro W1 b7 hN; obtain ⟨hb7, hr7, hl7, hz7⟩ := hN
       have f3 := Lib.hid (row_below e3.out hl7))
    | (refine tabA.wpStore rfl (.tmp 7) (.tmp 16) rfl rfl rfl hr7.out rfl HT.out ?_; intro W2 R7 hg2 hz2
       have R3 := Lib.hid (row_far f3.out hg2 (fun e => by have := Option.some.inj e; have := hb7.out; have := (Array.getElem?_eq_some_iff.1 e3.out).1; omega))
       have HB2 := Lib.hid ((HB1.out.trans (hl7.mono HB1.out.size)).grown hg2 (Nat.le_trans HB1.out.size hl7.size) (fun k e => by cases e; have := hb7.out; have := HB1.out.size; omega))
       clear hg2 hz2 hl7 hz7 hb7 hr7 f3)
    | (refine tabA.wpLoad (o := ⟨some 20, _, _, _, _, _⟩) rfl (.tmp 7) rfl rfl R7.out HT.out ?_)
    | (refine tabA.wpLoad (o := ⟨some 21, _, _, _, _, _⟩) rfl (.tmp 3) rfl rfl R3.out HT.out ?_)
    | (refine tabA.wpEqlw (o := ⟨some 22, _, _, _, _, _⟩) rfl (.tmp 20) (.tmp 21) _ rfl rfl rfl HT.out HT.out (b := true) (by simp) ?_)
    | (refine tabA.wpLoadw (o := ⟨some 24, _, _, _, _, _⟩) (by rfl) (.tmp 3) rfl rfl R3.out HT.out ?_)
    | fail)
  refine (CH.out _).mono ?_
  rintro e w3 ⟨rfl, hb3'⟩
  have S3 := Lib.hid (row_below R3.out hb3')
  have HB3 := Lib.hid (HB2.out.trans (hb3'.mono HB2.out.size))
  clear hb3' R3 R7 HB2
  go_wp2_with (first
    | (go_at_call 14; refine (lives14 _).mono ?_; rintro e w9 ⟨rfl, hb9⟩)
    | fail)
  go_ret
  exact ⟨rfl, HB3.out.trans (hb9.mono HB3.out.size)⟩

set_option maxRecDepth 20000 in
set_option maxHeartbeats 4000000 in
theorem once_old (T : List Cl) (c r : Nat) (w : World) (hT : Tok T) (hr : r < 18446744073709551616) (he : addT T c r = T) (h8 : 1 ≤ c ∧ c ≤ 8) (ho : oldN (T.getD (c - 1) (0, 0)).1 r = true) :
    Calls Try.prog 6 #[tbv T, .int .u64 (c : Int), .int .u64 (r : Int)] w fun e w' => e = .returned (.bool true) ∧ Below w.heap.size w w' := by
  have ca := fun W => add8_any T c r W hT hr
  rw [show (!decide (addT T c r = T)) = false by simp [he], he] at ca
  have ch := fun W => has8_any T c r W hT hr
  have co := fun W => old8_any T c r W hT
  rw [at8_in h8, hasN_old (hT.get _) ho] at ch
  rw [at8_in h8, ho] at co
  clear h8 ho
  have CA := Lib.hid ca
  have CH := Lib.hid ch
  have CO := Lib.hid co
  have HT := Lib.hid hT.1
  clear ca ch co hT he hr
  go_enter Try.func6, Try.ntmps6
  go_wp2_with (first
    | (refine wpL_tbox rfl (.tmp 0) rfl rfl ?_; intro W0 b3 hN; obtain ⟨hb3, hr3, hl3, hz3⟩ := hN)
    | (refine tabA.wpLoad (o := ⟨some 12, _, _, _, _, _⟩) rfl (.tmp 3) rfl rfl hr3.out HT.out ?_)
    | fail)
  refine (CA.out _).mono ?_
  rintro e w1 ⟨rfl, hb1⟩
  have e3 := Lib.hid (row_below hr3.out hb1)
  have HB1 := Lib.hid (hl3.trans (hb1.mono hl3.size))
  clear hr3 hb1 hl3 hz3
  go_wp2_with (first
    | (refine tabA.wpNew (o := ⟨some 7, _, _, _, _, _⟩) rfl rfl ?_; intro W1 b7 hN; obtain ⟨hb7, hr7, hl7, hz7⟩ := hN
       have f3 := Lib.hid (row_below e3.out hl7))
    | (refine tabA.wpStore rfl (.tmp 7) (.tmp 16) rfl rfl rfl hr7.out rfl HT.out ?_; intro W2 R7 hg2 hz2
       have R3 := Lib.hid (row_far f3.out hg2 (fun e => by have := Option.some.inj e; have := hb7.out; have := (Array.getElem?_eq_some_iff.1 e3.out).1; omega))
       have HB2 := Lib.hid ((HB1.out.trans (hl7.mono HB1.out.size)).grown hg2 (Nat.le_trans HB1.out.size hl7.size) (fun k e => by cases e; have := hb7.out; have := HB1.out.size; omega))
       clear hg2 hz2 hl7 hz7 hb7 hr7 f3)
    | (refine tabA.wpLoad (o := ⟨some 20, _, _, _, _, _⟩) rfl (.tmp 7) rfl rfl R7.out HT.out ?_)
    | (refine tabA.wpLoad (o := ⟨some 21, _, _, _, _, _⟩) rfl (.tmp 3) rfl rfl R3.out HT.out ?_)
    | (refine tabA.wpEqlw (o := ⟨some 22, _, _, _, _, _⟩) rfl (.tmp 20) (.tmp 21) _ rfl rfl rfl HT.out HT.out (b := true) (by simp) ?_)
    | (refine tabA.wpLoadw (o := ⟨some 24, _, _, _, _, _⟩) (by rfl) (.tmp 3) rfl rfl R3.out HT.out ?_)
    | fail)
  refine (CH.out _).mono ?_
  rintro e w3 ⟨rfl, hb3'⟩
  have S3 := Lib.hid (row_below R3.out hb3')
  have HB3 := Lib.hid (HB2.out.trans (hb3'.mono HB2.out.size))
  clear hb3' R3 R7 HB2
  go_wp2_with (first
    | (refine tabA.wpLoadw (o := ⟨some 29, _, _, _, _, _⟩) (by rfl) (.tmp 3) rfl rfl S3.out HT.out ?_)
    | fail)
  refine (CO.out _).mono ?_
  rintro e w4 ⟨rfl, hb4⟩
  have HB4 := Lib.hid (HB3.out.trans (hb4.mono HB3.out.size))
  clear hb4 S3 HB3
  go_wp2_with (first
    | (go_at_call 14; refine (lives14 _).mono ?_; rintro e w9 ⟨rfl, hb9⟩)
    | fail)
  go_ret
  exact ⟨rfl, HB4.out.trans (hb9.mono HB4.out.size)⟩

set_option maxRecDepth 20000 in
set_option maxHeartbeats 4000000 in
theorem once_zero (T : List Cl) (c r : Nat) (w : World) (hT : Tok T) (hr : r < 18446744073709551616) (he : addT T c r = T) (h0 : c = 0) :
    Calls Try.prog 6 #[tbv T, .int .u64 (c : Int), .int .u64 (r : Int)] w fun e w' => e = .returned (.bool true) ∧ Below w.heap.size w w' := by
  have ca := fun W => add8_any T c r W hT hr
  rw [show (!decide (addT T c r = T)) = false by simp [he], he] at ca
  have ch := fun W => has8_any T c r W hT hr
  have co := fun W => old8_any T c r W hT
  have h8 : ¬ (1 ≤ c ∧ c ≤ 8) := by omega
  rw [at8_out h8] at ch co
  subst h0
  clear h8
  have CA := Lib.hid ca
  have CH := Lib.hid ch
  have CO := Lib.hid co
  have HT := Lib.hid hT.1
  clear ca ch co hT he hr
  go_enter Try.func6, Try.ntmps6
  go_wp2_with (first
    | (refine wpL_tbox rfl (.tmp 0) rfl rfl ?_; intro W0 b3 hN; obtain ⟨hb3, hr3, hl3, hz3⟩ := hN)
    | (refine tabA.wpLoad (o := ⟨some 12, _, _, _, _, _⟩) rfl (.tmp 3) rfl rfl hr3.out HT.out ?_)
    | fail)
  refine (CA.out _).mono ?_
  rintro e w1 ⟨rfl, hb1⟩
  have e3 := Lib.hid (row_below hr3.out hb1)
  have HB1 := Lib.hid (hl3.trans (hb1.mono hl3.size))
  clear hr3 hb1 hl3 hz3
  go_wp2_with (first
    | (refine tabA.wpNew (o := ⟨some 7, _, _, _, _, _⟩) rfl rfl ?_; intro W1 b7 hN; obtain ⟨hb7, hr7, hl7, hz7⟩ := hN
       have f3 := Lib.hid (row_below e3.out hl7))
    | (refine tabA.wpStore rfl (.tmp 7) (.tmp 16) rfl rfl rfl hr7.out rfl HT.out ?_; intro W2 R7 hg2 hz2
       have R3 := Lib.hid (row_far f3.out hg2 (fun e => by have := Option.some.inj e; have := hb7.out; have := (Array.getElem?_eq_some_iff.1 e3.out).1; omega))
       have HB2 := Lib.hid ((HB1.out.trans (hl7.mono HB1.out.size)).grown hg2 (Nat.le_trans HB1.out.size hl7.size) (fun k e => by cases e; have := hb7.out; have := HB1.out.size; omega))
       clear hg2 hz2 hl7 hz7 hb7 hr7 f3)
    | (refine tabA.wpLoad (o := ⟨some 20, _, _, _, _, _⟩) rfl (.tmp 7) rfl rfl R7.out HT.out ?_)
    | (refine tabA.wpLoad (o := ⟨some 21, _, _, _, _, _⟩) rfl (.tmp 3) rfl rfl R3.out HT.out ?_)
    | (refine tabA.wpEqlw (o := ⟨some 22, _, _, _, _, _⟩) rfl (.tmp 20) (.tmp 21) _ rfl rfl rfl HT.out HT.out (b := true) (by simp) ?_)
    | (refine tabA.wpLoadw (o := ⟨some 24, _, _, _, _, _⟩) (by rfl) (.tmp 3) rfl rfl R3.out HT.out ?_)
    | fail)
  refine (CH.out _).mono ?_
  rintro e w3 ⟨rfl, hb3'⟩
  have S3 := Lib.hid (row_below R3.out hb3')
  have HB3 := Lib.hid (HB2.out.trans (hb3'.mono HB2.out.size))
  clear hb3' R3 R7 HB2
  go_wp2_with (first
    | (refine tabA.wpLoadw (o := ⟨some 29, _, _, _, _, _⟩) (by rfl) (.tmp 3) rfl rfl S3.out HT.out ?_)
    | fail)
  refine (CO.out _).mono ?_
  rintro e w4 ⟨rfl, hb4⟩
  have HB4 := Lib.hid (HB3.out.trans (hb4.mono HB3.out.size))
  clear hb4 S3 HB3
  go_wp2_with (first
    | (go_at_call 14; refine (lives14 _).mono ?_; rintro e w9 ⟨rfl, hb9⟩)
    | fail)
  go_ret
  exact ⟨rfl, HB4.out.trans (hb9.mono HB4.out.size)⟩

set_option maxRecDepth 20000 in
set_option maxHeartbeats 4000000 in
theorem once_far (T : List Cl) (c r : Nat) (w : World) (hT : Tok T) (hr : r < 18446744073709551616) (he : addT T c r = T) (h9 : 8 < c) :
    Calls Try.prog 6 #[tbv T, .int .u64 (c : Int), .int .u64 (r : Int)] w fun e w' => e = .returned (.bool true) ∧ Below w.heap.size w w' := by
  have ca := fun W => add8_any T c r W hT hr
  rw [show (!decide (addT T c r = T)) = false by simp [he], he] at ca
  have ch := fun W => has8_any T c r W hT hr
  have co := fun W => old8_any T c r W hT
  have h8 : ¬ (1 ≤ c ∧ c ≤ 8) := by omega
  rw [at8_out h8] at ch co
  have n1 : decide ((c : Int) < 1) = false := by simp; omega
  have n2 : decide ((8 : Int) < (c : Int)) = true := by simp; omega
  clear h8 h9
  have CA := Lib.hid ca
  have CH := Lib.hid ch
  have CO := Lib.hid co
  have HT := Lib.hid hT.1
  clear ca ch co hT he hr
  go_enter Try.func6, Try.ntmps6
  go_wp2_with (first
    | (refine wpL_tbox rfl (.tmp 0) rfl rfl ?_; intro W0 b3 hN; obtain ⟨hb3, hr3, hl3, hz3⟩ := hN)
    | (refine tabA.wpLoad (o := ⟨some 12, _, _, _, _, _⟩) rfl (.tmp 3) rfl rfl hr3.out HT.out ?_)
    | fail)
  refine (CA.out _).mono ?_
  rintro e w1 ⟨rfl, hb1⟩
  have e3 := Lib.hid (row_below hr3.out hb1)
  have HB1 := Lib.hid (hl3.trans (hb1.mono hl3.size))
  clear hr3 hb1 hl3 hz3
  go_wp2_with (first
    | (refine tabA.wpNew (o := ⟨some 7, _, _, _, _, _⟩) rfl rfl ?_; intro W1 b7 hN; obtain ⟨hb7, hr7, hl7, hz7⟩ := hN
       have f3 := Lib.hid (row_below e3.out hl7))
    | (refine tabA.wpStore rfl (.tmp 7) (.tmp 16) rfl rfl rfl hr7.out rfl HT.out ?_; intro W2 R7 hg2 hz2
       have R3 := Lib.hid (row_far f3.out hg2 (fun e => by have := Option.some.inj e; have := hb7.out; have := (Array.getElem?_eq_some_iff.1 e3.out).1; omega))
       have HB2 := Lib.hid ((HB1.out.trans (hl7.mono HB1.out.size)).grown hg2 (Nat.le_trans HB1.out.size hl7.size) (fun k e => by cases e; have := hb7.out; have := HB1.out.size; omega))
       clear hg2 hz2 hl7 hz7 hb7 hr7 f3)
    | (refine tabA.wpLoad (o := ⟨some 20, _, _, _, _, _⟩) rfl (.tmp 7) rfl rfl R7.out HT.out ?_)
    | (refine tabA.wpLoad (o := ⟨some 21, _, _, _, _, _⟩) rfl (.tmp 3) rfl rfl R3.out HT.out ?_)
    | (refine tabA.wpEqlw (o := ⟨some 22, _, _, _, _, _⟩) rfl (.tmp 20) (.tmp 21) _ rfl rfl rfl HT.out HT.out (b := true) (by simp) ?_)
    | (refine tabA.wpLoadw (o := ⟨some 24, _, _, _, _, _⟩) (by rfl) (.tmp 3) rfl rfl R3.out HT.out ?_)
    | fail)
  refine (CH.out _).mono ?_
  rintro e w3 ⟨rfl, hb3'⟩
  have S3 := Lib.hid (row_below R3.out hb3')
  have HB3 := Lib.hid (HB2.out.trans (hb3'.mono HB2.out.size))
  clear hb3' R3 R7 HB2
  go_wp2_with (first
    | (refine tabA.wpLoadw (o := ⟨some 29, _, _, _, _, _⟩) (by rfl) (.tmp 3) rfl rfl S3.out HT.out ?_)
    | fail)
  refine (CO.out _).mono ?_
  rintro e w4 ⟨rfl, hb4⟩
  have HB4 := Lib.hid (HB3.out.trans (hb4.mono HB3.out.size))
  clear hb4 S3 HB3
  go_wp2_with (first
    | (go_at_call 14; refine (lives14 _).mono ?_; rintro e w9 ⟨rfl, hb9⟩)
    | fail)
  go_ret
  exact ⟨rfl, HB4.out.trans (hb9.mono HB4.out.size)⟩

set_option maxRecDepth 20000 in
set_option maxHeartbeats 4000000 in
theorem once_new (T : List Cl) (c r : Nat) (w : World) (hT : Tok T) (hr : r < 18446744073709551616) (h8 : 1 ≤ c ∧ c ≤ 8) (ho : oldN (T.getD (c - 1) (0, 0)).1 r = false) (hh : hasN (T.getD (c - 1) (0, 0)) r = false) :
    Calls Try.prog 6 #[tbv T, .int .u64 (c : Int), .int .u64 (r : Int)] w fun e w' => e = .returned (.bool true) ∧ Below w.heap.size w w' := by
  obtain ⟨e1, e2⟩ := addT_new hT h8 ho hh
  have ca := fun W => add8_any T c r W hT hr
  have hU := addT_ok hT c r hr
  have hg : (addT T c r).getD (c - 1) (0, 0) = withN (T.getD (c - 1) (0, 0)) r := by
    rw [e1, List.getD, List.getElem?_set, if_pos rfl, if_pos (by have := hT.1; omega)]
    rfl
  obtain ⟨k1, k2⟩ := hasN_with (p := T.getD (c - 1) (0, 0)) (r := r) ho
  have cb := fun W => add8_any (addT T c r) c r W hU hr
  have hu := fun W => has8_any (addT T c r) c r W hU hr
  rw [addT_has hU h8 (by rw [hg]; exact k2) (by rw [hg]; exact k1)] at cb
  rw [at8_in h8, hg, k1] at hu
  have ch := fun W => has8_any T c r W hT hr
  have co := fun W => old8_any T c r W hT
  rw [at8_in h8, hh] at ch
  rw [at8_in h8, ho] at co
  rw [show (!decide (addT T c r = T)) = true by simp [e2]] at ca
  rw [show (!decide (addT T c r = addT T c r)) = false by simp] at cb
  generalize addT T c r = U at *
  have CA := Lib.hid ca
  have CB := Lib.hid cb
  have CH := Lib.hid ch
  have CU := Lib.hid hu
  have CO := Lib.hid co
  have HT := Lib.hid hT.1
  have HU := Lib.hid hU.1
  have HNE := Lib.hid e2
  clear ca cb ch co hu hT hU hr h8 ho hh e1 e2 hg k1 k2
  go_enter Try.func6, Try.ntmps6
  go_wp2_with (first
    | (refine wpL_tbox rfl (.tmp 0) rfl rfl ?_; intro W0 b3 hN; obtain ⟨hb3, hr3, hl3, hz3⟩ := hN)
    | (refine tabA.wpLoad (o := ⟨some 12, _, _, _, _, _⟩) rfl (.tmp 3) rfl rfl hr3.out HT.out ?_)
    | fail)
  refine (CA.out _).mono ?_
  rintro e w1 ⟨rfl, hb1⟩
  have e3 := Lib.hid (row_below hr3.out hb1)
  have HB1 := Lib.hid (hl3.trans (hb1.mono hl3.size))
  clear hr3 hb1 hl3 hz3
  go_wp2_with (first
    | (refine tabA.wpNew (o := ⟨some 7, _, _, _, _, _⟩) rfl rfl ?_; intro W1 b7 hN; obtain ⟨hb7, hr7, hl7, hz7⟩ := hN
       have f3 := Lib.hid (row_below e3.out hl7))
    | (refine tabA.wpStore rfl (.tmp 7) (.tmp 16) rfl rfl rfl hr7.out rfl HU.out ?_; intro W2 R7 hg2 hz2
       have R3 := Lib.hid (row_far f3.out hg2 (fun e => by have := Option.some.inj e; have := hb7.out; have := (Array.getElem?_eq_some_iff.1 e3.out).1; omega))
       have HB2 := Lib.hid ((HB1.out.trans (hl7.mono HB1.out.size)).grown hg2 (Nat.le_trans HB1.out.size hl7.size) (fun k e => by cases e; have := hb7.out; have := HB1.out.size; omega))
       clear hg2 hz2 hl7 hz7 hb7 hr7 f3)
    | (refine tabA.wpLoad (o := ⟨some 47, _, _, _, _, _⟩) rfl (.tmp 7) rfl rfl R7.out HU.out ?_)
    | fail)
  refine (CB.out _).mono ?_
  rintro e w3 ⟨rfl, hb3'⟩
  have S3 := Lib.hid (row_below R3.out hb3')
  have S7 := Lib.hid (row_below R7.out hb3')
  have HB3 := Lib.hid (HB2.out.trans (hb3'.mono HB2.out.size))
  clear hb3' R3 R7 HB2
  go_wp2_with (first
    | (refine tabA.wpNew (o := ⟨some 9, _, _, _, _, _⟩) rfl rfl ?_; intro W4 b9 hN; obtain ⟨hb9, hr9, hl9, hz9⟩ := hN
       have f3 := Lib.hid (row_below S3.out hl9)
       have f7 := Lib.hid (row_below S7.out hl9))
    | (refine tabA.wpStore rfl (.tmp 9) (.tmp 51) rfl rfl rfl hr9.out rfl HU.out ?_; intro W5 R9 hg5 hz5
       have T3 := Lib.hid (row_far f3.out hg5 (fun e => by have := Option.some.inj e; have := hb9.out; have := (Array.getElem?_eq_some_iff.1 S3.out).1; omega))
       have T7 := Lib.hid (row_far f7.out hg5 (fun e => by have := Option.some.inj e; have := hb9.out; have := (Array.getElem?_eq_some_iff.1 S7.out).1; omega))
       have HB5 := Lib.hid ((HB3.out.trans (hl9.mono HB3.out.size)).grown hg5 (Nat.le_trans HB3.out.size hl9.size) (fun k e => by cases e; have := hb9.out; have := HB3.out.size; omega))
       clear hg5 hz5 hl9 hz9 hb9 hr9 f3 f7 R9)
    | (refine tabA.wpLoad (o := ⟨some 53, _, _, _, _, _⟩) rfl (.tmp 7) rfl rfl T7.out HU.out ?_)
    | (refine tabA.wpLoad (o := ⟨some 54, _, _, _, _, _⟩) rfl (.tmp 3) rfl rfl T3.out HT.out ?_)
    | (refine tabA.wpNeqw (o := ⟨some 55, _, _, _, _, _⟩) rfl (.tmp 53) (.tmp 54) _ rfl rfl rfl HU.out HT.out (b := true) (by simp [HNE.out]) ?_)
    | (refine tabA.wpLoadw (o := ⟨some 57, _, _, _, _, _⟩) (by rfl) (.tmp 3) rfl rfl T3.out HT.out ?_)
    | fail)
  refine (CH.out _).mono ?_
  rintro e w6 ⟨rfl, hb6⟩
  have U3 := Lib.hid (row_below T3.out hb6)
  have U7 := Lib.hid (row_below T7.out hb6)
  have HB6 := Lib.hid (HB5.out.trans (hb6.mono HB5.out.size))
  clear hb6 T3 T7 HB5
  go_wp2_with (first
    | (refine tabA.wpLoadw (o := ⟨some 64, _, _, _, _, _⟩) (by rfl) (.tmp 3) rfl rfl U3.out HT.out ?_)
    | fail)
  refine (CO.out _).mono ?_
  rintro e w7 ⟨rfl, hb7'⟩
  have V7 := Lib.hid (row_below U7.out hb7')
  have HB7 := Lib.hid (HB6.out.trans (hb7'.mono HB6.out.size))
  clear hb7' U3 U7 HB6
  go_wp2_with (first
    | (refine tabA.wpLoadw (o := ⟨some 71, _, _, _, _, _⟩) (by rfl) (.tmp 7) rfl rfl V7.out HU.out ?_)
    | fail)
  refine (CU.out _).mono ?_
  rintro e w8 ⟨rfl, hb8⟩
  have HB8 := Lib.hid (HB7.out.trans (hb8.mono HB7.out.size))
  clear hb8 V7 HB7
  go_wp2_with (first
    | (go_at_call 14; refine (lives14 _).mono ?_; rintro e w9 ⟨rfl, hb9⟩)
    | fail)
  go_ret
  exact ⟨rfl, HB8.out.trans (hb9.mono HB8.out.size)⟩

theorem doneOnce_walk {w : World} (T : List Cl) (hT : Tok T) (c : Nat) (_ : c < 18446744073709551616) (r : Nat) (hr : r < 18446744073709551616) :
    Calls Try.prog 6 #[tbv T, .int .u64 (c : Int), .int .u64 (r : Int)] w fun e w' => e = .returned (.bool true) ∧ Below w.heap.size w w' := by
  by_cases h8 : 1 ≤ c ∧ c ≤ 8
  · cases ho : oldN (T.getD (c - 1) (0, 0)).1 r
    · cases hh : hasN (T.getD (c - 1) (0, 0)) r
      · exact once_new T c r w hT hr h8 ho hh
      · exact once_has T c r w hT hr (addT_has hT h8 ho hh) h8 hh
    · exact once_old T c r w hT hr (addT_old h8 ho) h8 ho
  · rcases Nat.lt_or_ge c 1 with h1 | h1
    · exact once_zero T c r w hT hr (addT_out h8) (by omega)
    · exact once_far T c r w hT hr (addT_out h8) (by omega)
namespace doneOnce
open Go.ChangeShapes Go.WideShapes Go.ChangeAt
set_option maxRecDepth 100000 in
theorem lifted (os : Os) (started : os.Started) (H : Type) (enc : TypeId × Value → H) :
    ReturnsInHanded {} Try.checked os 6 .any (Rows.doneOnceSpec.pre6 enc Try.prog Try.f6 Rows.doneOnceRow.domain false) (Rows.doneOnceSpec.post enc Try.prog Try.f6 false true false false) := by
  refine returnsInHanded_of_change (C := Try.checked) own started (by kernel_rfl) Try.func6
    (ChangeSpec.witness6 (enc := enc) (C := Try.checked) false ⟨#[], #[.agg #[.int .u64 0, .int .u16 0, .int .u64 0, .int .u16 0, .int .u64 0, .int .u16 0, .int .u64 0, .int .u16 0, .int .u64 0, .int .u16 0, .int .u64 0, .int .u16 0, .int .u64 0, .int .u16 0, .int .u64 0, .int .u16 0], .int .u64 0, .int .u64 0], []⟩ 8 (by kernel_rfl) (by kernel_rfl) (by kernel_rfl) (by kernel_rfl)) ?_
  intro W base args ds gs before hval0 hW _ _
  have hval : ∀ (j : Nat) t v, Try.f6.params[j]? = some t → args[j]? = some v → Value.okWide Try.prog W .any base t v := hval0
  have hW' := hW
  obtain ⟨p, q, hA0, hV, rfl, hfz, hnd⟩ := hW
  have hA : DataW.TrodAll enc Try.prog W 0 (fun _ => true) true Try.f6.params.toList args.toList ds p := hA0
  rw [Try.params6] at hA hval
  obtain ⟨v0, vs0, d0, ds0, p0, q0, hargs, rfl, rfl, h0, r0⟩ := trodAll_cons hA
  obtain ⟨v1, vs1, d1, ds1, p1, q1, rfl, rfl, rfl, h1, r1⟩ := trodAll_cons r0
  obtain ⟨v2, vs2, d2, ds2, p2, q2, rfl, rfl, rfl, h2, r2⟩ := trodAll_cons r1
  obtain ⟨rfl, rfl, rfl⟩ := trodAll_nil r2
  obtain rfl : args = #[v0, v1, v2] := by cases args; simp_all
  obtain ⟨rfl, rfl⟩ := trodVars_none hV
  have k0 := h0
  have lt0 : ∀ x ∈ p0, x.block < W.heap.size := by obtain ⟨m, hm⟩ := k0; exact DataW.trod_lt m _ _ _ hm
  obtain ⟨o0, rfl, w0⟩ := dec_table tabA (by kernel_rfl) (by kernel_rfl) cl_one (hval 0 27 v0 rfl rfl) h0
  have k1 := h1
  have lt1 : ∀ x ∈ p1, x.block < W.heap.size := by obtain ⟨m, hm⟩ := k1; exact DataW.trod_lt m _ _ _ hm
  obtain ⟨x1, rfl, w1⟩ := dec_u64 Try.underlying22 (hval 1 22 v1 rfl rfl) h1
  have k2 := h2
  have lt2 : ∀ x ∈ p2, x.block < W.heap.size := by obtain ⟨m, hm⟩ := k2; exact DataW.trod_lt m _ _ _ hm
  obtain ⟨x2, rfl, w2⟩ := dec_u64 Try.underlying22 (hval 2 22 v2 rfl rfl) h2
  clear hA0 hval0
  refine (doneOnce_walk o0 w0 x1 w1 x2 w2).mono fun e W' ⟨he, bel⟩ => ?_
  subst he
  exact ⟨_, rfl, _, _, _, [], _, [], hW', trodAll_mk1 (shut_bool Try.underlying4 _), (trodAll_cons_mk (Below.trod laidOut (by kernel_rfl) (of_decide_eq_true (by kernel_rfl)) k0 bel lt0) (trodAll_cons_mk (Below.trod laidOut (by kernel_rfl) (of_decide_eq_true (by kernel_rfl)) k1 bel lt1) (trodAll_cons_mk (Below.trod laidOut (by kernel_rfl) (of_decide_eq_true (by kernel_rfl)) k2 bel lt2) trodAll_mk0))), rfl, bel.frame _, fun h => by cases h⟩

theorem over : Rows.doneOnceRow.holds Try.pinned (OpenSpec.ofChange Rows.doneOnceSpec) :=
  OpenClaim.holds_of_wide 6 Try.f6 rfl rfl rfl rfl rfl rfl rfl ⟨rfl, rfl, rfl, rfl, rfl⟩ rfl rfl rfl rfl rfl (by kernel_rfl) Try.func6 (by kernel_rfl)
    (of_decide_eq_true (by kernel_rfl)) (by unfold Func.isWrapper; first | (rw [if_pos (by decide +kernel)]; kernel_rfl) | (rw [if_neg (by decide +kernel)]; exact ⟨rfl, rfl⟩))
    (fun os started H enc _ => lifted os started H enc)
/-- The given statement. -/
theorem proved : Rows.DoneOnceSaid := over
end doneOnce

end Go.Proofs.Ytlbjbkhnicbibaa

/- slices.insertionSortOrdered. Members, the program's and the reference's; the reference's Has and Majority. -/
import Derived.Test.YtapfggpeodpflaaQsM
import Derived.Deep.DeepCutAuto
import Derived.Deep.CutBlock
namespace Go.Proofs.Ytapfggpeodpflaa.Qu
open Go.RowKit
open Go.Sort (insInner insOuter insertionSort swp)

theorem inner_size (lt : Nat → Nat → Bool) (a : Nat) : ∀ (j : Nat) (d : Array Nat), (insInner lt a j d).size = d.size
  | 0, _ => rfl
  | j + 1, d => by
    unfold insInner
    split
    · rw [inner_size lt a j, swp_size]
    · rfl
theorem outer_step {lt : Nat → Nat → Bool} {a b i : Nat} {d : Array Nat} (h : i < b) : insOuter lt a b i d = insOuter lt a b (i + 1) (insInner lt a i d) := by
  rw [insOuter, if_pos h]
theorem outer_end {lt : Nat → Nat → Bool} {a b i : Nat} {d : Array Nat} (h : ¬ i < b) : insOuter lt a b i d = d := by
  rw [insOuter, if_neg h]
/-- What is left to be done in the inner loop. -/
def InnL (w : World) (g n a : Nat) (D : Array Nat) (j : Nat) (wr : World) : Prop := ∃ d, Arr wr g d ∧ d.size = n ∧ Trn w g wr ∧ insInner ltN a j d = D
def OutL (w : World) (g n a b : Nat) (D : Array Nat) (i : Nat) (wr : World) : Prop := ∃ d, Arr wr g d ∧ d.size = n ∧ Trn w g wr ∧ insOuter ltN a b i d = D
set_option maxHeartbeats 2000000 in
theorem ins_any {w : World} {g n c : Nat} {d : Array Nat} (a b : Nat) (h : Arr w g d) (hd : d.size = n) (hab : a ≤ b) (hb : b ≤ n) (hn : n ≤ 1000000) :
    Calls Try.prog 55 #[.slice (some ⟨g, 0, none⟩) n c, .int .i64 (a : Int), .int .i64 (b : Int)] w fun e w' => e = .returned (.tuple #[]) ∧ Arr w' g (insertionSort ltN d a b) ∧ Trn w g w' := by
  have hL := fun W x y => less_any x y W
  have H0 := Lib.hid (show OutL w g n a b (insertionSort ltN d a b) (a + 1) w from ⟨d, h, hd, Trn.refl w g, rfl⟩)
  generalize insertionSort ltN d a b = D at *
  clear h hd
  go_enter Try.func55, Try.ntmps55
  go_wp2_with (fail)
  go_loopw [6] (fun ir wr => ∃ i : Nat, i ≤ n + 1 ∧ a < i ∧ ir = .int .i64 (i : Int) ∧ Hid (OutL w g n a b D i wr)) (fun ir _ => n + 1 - (intOf ir).toNat)
  case atStart => exact ⟨a + 1, by omega, by omega, by go_num, H0⟩
  case round =>
    clear H0
    obtain ⟨i, hi, hai, rfl, HO⟩ := hrel
    by_cases hlt : i < b
    · obtain ⟨d0, ha0, hs0, ht0, he0⟩ := HO.out
      have hI : Hid (InnL w g n a (insInner ltN a i d0) i wr) := Lib.hid ⟨d0, ha0, hs0, ht0, rfl⟩
      have HE := Lib.hid (show insOuter ltN a b (i + 1) (insInner ltN a i d0) = D by rw [← outer_step hlt]; exact he0)
      generalize insInner ltN a i d0 = D1 at *
      have d1 : decide (i < b) = true := by simpa using hlt
      have HLT := Lib.hid hlt
      clear ha0 hs0 ht0 he0 HO hlt d0
      obtain ⟨wo, rfl⟩ : ∃ wo : World, wo = wr := ⟨_, rfl⟩
      go_wp2_with (fail)
      go_loopw [7] (fun jr wr => ∃ j : Nat, j ≤ i ∧ jr = .int .i64 (j : Int) ∧ Hid (InnL w g n a D1 j wr)) (fun jr _ => (intOf jr).toNat)
      case atStart => exact ⟨i, Nat.le_refl _, rfl, hI⟩
      case round =>
        obtain ⟨j, hj, rfl, HI⟩ := hrel
        obtain ⟨d2, ha2, hs2, ht2, he2⟩ := HI.out
        clear HI
        have hjn : j < n := by have := HLT.out; omega
        by_cases hja : a < j
        · obtain ⟨k, rfl⟩ : ∃ k, j = k + 1 := ⟨j - 1, by omega⟩
          have c0 := ha2.cell (k + 1) (by omega)
          have c1 := ha2.cell k (by omega)
          have z0 := ha2.free (k + 1) (by omega)
          have z1 := ha2.free k (by omega)
          have e3 : (0 : Int) ≤ (k : Int) := by omega
          have e6 : (k : Int) ≤ 1000000 := by omega
          have d2' : decide ((a : Int) < (k : Int) + 1) = true := by simp; omega
          have d3' : decide (a < k + 1) = true := by simp; omega
          have e4 : (k : Int) < (n : Int) := by omega
          have e5 : (k : Int) + 1 < (n : Int) := by omega
          have e7 : k + 1 < n := hjn
          have e8 : k < n := by omega
          have hstep : insInner ltN a (k + 1) d2 = if ltN d2[k + 1]! d2[k]! = true then insInner ltN a k (swp d2 (k + 1) k) else d2 := by
            rw [insInner]
            simp [hja]
          have HA2 := Lib.hid ha2
          have HT2 := Lib.hid ht2
          have HE2 := Lib.hid he2
          have HS2 := Lib.hid hs2
          have HST := Lib.hid hstep
          have HSW := Lib.hid (fun m => (ha2.drewN m).swp (i := k + 1) (j := k) (by omega) (by omega))
          have hq := fun W => less_any d2[k + 1]! d2[k]! W
          have HJA := Lib.hid hja
          have HJ := Lib.hid hj
          clear ha2 ht2 he2 hs2 hstep hja hj hjn
          generalize d2[k + 1]! = x at *
          generalize d2[k]! = y at *
          cases hb : ltN x y with
          | false =>
            rw [hb] at hq HST
            clear hb
            have hq := fun W => (hq W).mono (fun e w' h => (⟨h.1, h.2.symm⟩ : e = _ ∧ w' = W))
            go_wp2_with (fail)
            go_quiet ((go_at_call 61; exact Calls.quiet_of_same (hq _)))
            go_wp2
            go_roundw
            case rel => exact ⟨i + 1, by have := HLT.out; omega, by omega, by go_num, Lib.hid ⟨d2, HA2.out.drewN _, HS2.out, HT2.out.drewN _, by rw [← HE.out, ← HE2.out, HST.out]; rfl⟩⟩
            case measure => have := HLT.out; simp [intOf]; omega
          | true =>
            rw [hb] at hq HST
            clear hb
            have hq := fun W => (hq W).mono (fun e w' h => (⟨h.1, h.2.symm⟩ : e = _ ∧ w' = W))
            go_wp2_with (fail)
            go_quiet ((go_at_call 61; exact Calls.quiet_of_same (hq _)))
            go_wp2
            go_big_region
            all_goals go_wp2
            all_goals go_roundw
            case rel => exact ⟨k, by have := HJ.out; omega, rfl, Lib.hid ⟨_, HSW.out _, by rw [swp_size]; exact HS2.out, ((HT2.out.drewN _).set _ _).set _ _, by rw [← HE2.out, HST.out]; rfl⟩⟩
            case measure => simp [intOf]
        · have hna : decide ((a : Int) < (j : Int)) = false := by simp; omega
          have hna2 : decide (a < j) = false := by simp; omega
          have hna3 : insInner ltN a j d2 = d2 := by
            cases j with
            | zero => rfl
            | succ k => rw [insInner]; simp; omega
          have HNA := Lib.hid hna3
          have HA2 := Lib.hid ha2
          have HT2 := Lib.hid ht2
          have HE2 := Lib.hid he2
          have HS2 := Lib.hid hs2
          clear ha2 ht2 he2 hs2 hja hj hjn hna3
          go_wp2_with (fail)
          go_quiet (fail)
          go_wp2
          go_roundw
          case rel => exact ⟨i + 1, by have := HLT.out; omega, by omega, by go_num, Lib.hid ⟨d2, HA2.out.drewN _, HS2.out, HT2.out.drewN _, by rw [← HE.out, ← HE2.out, HNA.out]⟩⟩
          case measure => have := HLT.out; simp [intOf]; omega
    · obtain ⟨d0, ha0, hs0, ht0, he0⟩ := HO.out
      have hD : d0 = D := by rw [← he0, outer_end hlt]
      subst hD
      have HA2 := Lib.hid ha0
      have HT2 := Lib.hid ht0
      have d1 : decide (i < b) = false := by simpa using hlt
      clear ha0 ht0 he0 hs0 HO hlt
      go_wp2_with (fail)
      go_end0
      exact ⟨rfl, HA2.out, HT2.out⟩
end Go.Proofs.Ytapfggpeodpflaa.Qu

namespace Go.Proofs.Ytapfggpeodpflaa.Qu
open Go.RowKit
set_option maxRecDepth 20000

theorem ElemI : Elem Try.prog 42 3 (.int .i64 0) 1 8 := Elem.mk_ Try.underlying42 (by kernel_rfl) rfl (by decide)
theorem grow_below {w w' : World} (h : Below w.heap.size w w') : w.grownBy w' none := ⟨h.os, h.tape, h.output, h.size, fun i hi _ => h.block i hi⟩
/-- The nodes of a set below a number, as numbers. -/
def mem_ (s k : Nat) : List Int := ((List.range k).filter s.testBit).map (fun (i : Nat) => (i : Int))
theorem mem_len (s k : Nat) : (mem_ s k).length ≤ k := by
  unfold mem_
  rw [List.length_map]
  have := List.length_filter_le s.testBit (List.range k)
  rw [List.length_range] at this
  exact this
theorem mem_yes {s k : Nat} (h : s.testBit k = true) : mem_ s (k + 1) = mem_ s k ++ [(k : Int)] := by
  unfold mem_; rw [List.range_succ, List.filter_append]; simp [h]
theorem mem_no {s k : Nat} (h : s.testBit k = false) : mem_ s (k + 1) = mem_ s k := by
  unfold mem_; rw [List.range_succ, List.filter_append]; simp [h]
theorem mem_64 (s : Nat) : mem_ s 64 = (memb s).map (fun (i : Nat) => (i : Int)) := rfl
theorem rhas_any (s : Nat) (n : Int) (w : World) (hs : s < 18446744073709551616) :
    Calls Try.prog 11 #[.int .u64 (s : Int), .int .i64 n] w fun e w' => e = .returned (.bool (inB s n)) ∧ w = w' := by
  by_cases h : 0 ≤ n ∧ n < 64
  · obtain ⟨h1, h2⟩ := h
    obtain ⟨k, rfl⟩ : ∃ k : Nat, n = (k : Int) := ⟨n.toNat, by omega⟩
    have hk : k < 64 := by omega
    rw [inB_nat s k hk]
    have HS := Lib.hid hs
    have d1 : decide (0 ≤ (k : Int)) = true := by simp
    have d2 : decide ((63 : Int) < (k : Int)) = false := by simp; omega
    have h3 : (k : Int) ≤ 63 := by omega
    have HK := Lib.hid hk
    clear hs h2 hk
    go_enter Try.func11, Try.ntmps11
    go_wp2_with (fail)
    go_loop [0, 5] (fun sr ir => ∃ i : Nat, i ≤ k ∧ ir = .int .i64 (i : Int) ∧ sr = .int .u64 ((s / 2 ^ i : Nat) : Int)) (fun _ ir => k - (intOf ir).toNat)
    case atStart => exact ⟨0, Nat.zero_le _, rfl, by simp⟩
    case round =>
      obtain ⟨i, hi, rfl, rfl⟩ := hrel
      have hst : s / 2 ^ i / 2 = s / 2 ^ (i + 1) := by rw [Nat.div_div_eq_div_mul, Nat.pow_succ]
      have hb : s.testBit i = decide (s / 2 ^ i % 2 = 1) := by rw [Nat.testBit_eq_decide_div_mod_eq]
      have hq : s / 2 ^ i < 18446744073709551616 := Nat.lt_of_le_of_lt (Nat.div_le_self _ _) HS.out
      have HST := Lib.hid hst
      have HB := Lib.hid hb
      clear hst hb
      generalize s / 2 ^ i = q at *
      by_cases hlt : i < k
      · go_wp2
        go_round
        case rel => exact ⟨i + 1, by omega, by go_num, by rw [← HST.out]; go_num⟩
        case measure => simp [intOf]; omega
      · obtain rfl : i = k := by omega
        go_wp2
        go_ret
        exact ⟨ret_bool (by rw [HB.out, Bool.eq_iff_iff]; simp; omega), rfl⟩
  · have e : inB s n = false := by
      unfold inB
      by_cases h0 : 0 ≤ n
      · have : ¬ n < 64 := fun h1 => h ⟨h0, h1⟩
        simp [this]
      · simp [h0]
    rw [e]
    by_cases h0 : 0 ≤ n
    · have d2 : decide ((63 : Int) < n) = true := by simp; omega
      clear h e hs
      go_enter Try.func11, Try.ntmps11
      go_wp2
      go_ret
      exact ⟨rfl, rfl⟩
    · have d2 : decide (n < 0) = true := by simp; omega
      have d3 : ¬ 0 ≤ n := h0
      clear h e hs
      go_enter Try.func11, Try.ntmps11
      go_wp2
      go_ret
      exact ⟨rfl, rfl⟩
/-- A slice of one's own of numbers. -/
def Tells (w : World) (l : List Int) (e : Ending) (w' : World) : Prop := ∃ A c, e = .returned (.slice A l.length c) ∧ w'.ownsRow w.heap.size 3 1 (.slice A l.length c) l.length (is l) ∧ Below w.heap.size w w'
theorem own_slice {w : World} {base n : Nat} {v : Value} {l : List Int} (h : w.ownsRow base 3 1 v n (is l)) : ∃ A c, v = .slice A n c := by
  rcases h.2 with ⟨rfl, hn⟩ | ⟨g, cap, cur, rfl, _⟩
  · obtain rfl : n = 0 := by have := h.1; rw [hn] at this; simp at this; omega
    exact ⟨_, _, rfl⟩
  · exact ⟨_, _, rfl⟩
set_option maxHeartbeats 1000000 in
theorem members_any (s : Nat) (w : World) (hs : s < 18446744073709551616) :
    Calls Try.prog 25 #[.int .u64 (s : Int)] w (Tells w (mem_ s 64)) := by
  have hA := fun W (k : Nat) => has_any s (k : Int) W hs
  clear hs
  go_enter Try.func25, Try.ntmps25
  go_wp2_with fail
  go_loopw [3, 5] (fun vr kr wr => ∃ j : Nat, j ≤ 64 ∧ kr = .int .i64 (j : Int) ∧ Hid (wr.ownsRow w.heap.size 3 1 vr (mem_ s j).length (is (mem_ s j))) ∧ Hid (Below w.heap.size w wr)) (fun _ kr _ => 66 - (intOf kr).toNat)
  case atStart => exact ⟨0, by omega, rfl, Lib.hid (World.ownsRow_nil _ _ _ _), Lib.hid (Below.refl _ _)⟩
  case round =>
    obtain ⟨j, hj, rfl, HO, HBl⟩ := hrel
    by_cases hlt : j < 64
    · have hA := fun W => hA W j
      rw [inB_nat s j hlt] at hA
      have HLT := Lib.hid hlt
      have d1 : decide ((j : Int) < 64) = true := by simp; omega
      have hpl : (mem_ s j).length ≤ 64 := Nat.le_trans (mem_len s j) hj
      have hsz := HBl.out.size
      have hj2 : (j : Int) ≤ 100 := by omega
      cases hb : s.testBit j
      · rw [hb] at hA
        have HM := Lib.hid (mem_no hb)
        clear hb hlt
        go_wp2_with (go_at_call 22; (with_reducible refine (hA _).mono ?_); rintro e w3 ⟨rfl, rfl⟩)
        go_roundw
        case rel => exact ⟨j + 1, by have := HLT.out; omega, by go_num, by rw [HM.out]; exact HO, HBl⟩
        case measure => have := HLT.out; simp [intOf]; omega
      · rw [hb] at hA
        have HM := Lib.hid (mem_yes hb)
        clear hb hlt
        go_wp2_with (first
          | (go_at_call 22; (with_reducible refine (hA _).mono ?_); rintro e w3 ⟨rfl, rfl⟩)
          | (at_builtin; refine wpL_app rfl _ _ _ _ rfl ElemI rfl rfl (HO.out.alloc _) (Src.lit Try.underlying42 _ rfl (by intro u hu; simp at hu; subst hu; rfl)) (by unfold maxLen; omega) (by omega) (by simp; omega) ?_; intro v2 w2 hown2 hg2 hat2))
        go_roundw
        case rel =>
          refine ⟨j + 1, by have := HLT.out; omega, by go_num, Lib.hid ?_, Lib.hid ((HBl.out.alloc hsz _).grown hg2 (by simp; omega) (fun k e => (HO.out.lt k e).1))⟩
          rw [HM.out, List.length_append, is_app]
          exact hown2
        case measure => have := HLT.out; simp [intOf]; omega
    · obtain rfl : j = 64 := by omega
      have d1 : decide (((64 : Nat) : Int) < 64) = false := by simp
      obtain ⟨A, c, rfl⟩ := own_slice HO.out
      go_wp2
      go_ret
      exact ⟨A, c, rfl, HO.out, HBl.out⟩
end Go.Proofs.Ytapfggpeodpflaa.Qu

/- Members, the program's and the reference's; the reference's Has and Majority. -/
import Derived.Test.YtenloljcaolkfaaQa
import Derived.Deep.DeepCutAuto
import Derived.Deep.CutBlock
namespace Go.Proofs.Ytenloljcaolkfaa.Qu
open Go.RowKit
set_option maxRecDepth 20000

theorem ElemI : Elem Try.prog 42 3 (.int .i64 0) 1 8 := Elem.mk_ Try.underlying42 (by kernel_rfl) rfl (by decide)
theorem grow_below {w w' : World} (h : Below w.heap.size w w') : w.grownBy w' none := ⟨h.os, h.tape, h.output, h.size, fun i hi _ => h.block i hi⟩
/-- The nodes of a set below a number, as numbers. -/
def mem_ (s k : Nat) : List Int := ((List.range k).filter s.testBit).map (fun (i : Nat) => (i : Int))
theorem mem_len (s k : Nat) : (mem_ s k).length ≤ k := by
  unfold mem_
  rw [List.length_map]
  have := List.length_filter_le s.testBit (List.range k)
  rw [List.length_range] at this
  exact this
theorem mem_yes {s k : Nat} (h : s.testBit k = true) : mem_ s (k + 1) = mem_ s k ++ [(k : Int)] := by
  unfold mem_; rw [List.range_succ, List.filter_append]; simp [h]
theorem mem_no {s k : Nat} (h : s.testBit k = false) : mem_ s (k + 1) = mem_ s k := by
  unfold mem_; rw [List.range_succ, List.filter_append]; simp [h]
theorem mem_64 (s : Nat) : mem_ s 64 = (memb s).map (fun (i : Nat) => (i : Int)) := rfl
theorem rhas_any (s : Nat) (n : Int) (w : World) (hs : s < 18446744073709551616) :
    Calls Try.prog 11 #[.int .u64 (s : Int), .int .i64 n] w fun e w' => e = .returned (.bool (inB s n)) ∧ w = w' := by
  by_cases h : 0 ≤ n ∧ n < 64
  · obtain ⟨h1, h2⟩ := h
    obtain ⟨k, rfl⟩ : ∃ k : Nat, n = (k : Int) := ⟨n.toNat, by omega⟩
    have hk : k < 64 := by omega
    rw [inB_nat s k hk]
    have HS := Lib.hid hs
    have d1 : decide (0 ≤ (k : Int)) = true := by simp
    have d2 : decide ((63 : Int) < (k : Int)) = false := by simp; omega
    have h3 : (k : Int) ≤ 63 := by omega
    have HK := Lib.hid hk
    clear hs h2 hk
    go_enter Try.func11, Try.ntmps11
    go_wp2_with (fail)
    go_loop [0, 5] (fun sr ir => ∃ i : Nat, i ≤ k ∧ ir = .int .i64 (i : Int) ∧ sr = .int .u64 ((s / 2 ^ i : Nat) : Int)) (fun _ ir => k - (intOf ir).toNat)
    case atStart => exact ⟨0, Nat.zero_le _, rfl, by simp⟩
    case round =>
      obtain ⟨i, hi, rfl, rfl⟩ := hrel
      have hst : s / 2 ^ i / 2 = s / 2 ^ (i + 1) := by rw [Nat.div_div_eq_div_mul, Nat.pow_succ]
      have hb : s.testBit i = decide (s / 2 ^ i % 2 = 1) := by rw [Nat.testBit_eq_decide_div_mod_eq]
      have hq : s / 2 ^ i < 18446744073709551616 := Nat.lt_of_le_of_lt (Nat.div_le_self _ _) HS.out
      have HST := Lib.hid hst
      have HB := Lib.hid hb
      clear hst hb
      generalize s / 2 ^ i = q at *
      by_cases hlt : i < k
      · go_wp2
        go_round
        case rel => exact ⟨i + 1, by omega, by go_num, by rw [← HST.out]; go_num⟩
        case measure => simp [intOf]; omega
      · obtain rfl : i = k := by omega
        go_wp2
        go_ret
        exact ⟨ret_bool (by rw [HB.out, Bool.eq_iff_iff]; simp; omega), rfl⟩
  · have e : inB s n = false := by
      unfold inB
      by_cases h0 : 0 ≤ n
      · have : ¬ n < 64 := fun h1 => h ⟨h0, h1⟩
        simp [this]
      · simp [h0]
    rw [e]
    by_cases h0 : 0 ≤ n
    · have d2 : decide ((63 : Int) < n) = true := by simp; omega
      clear h e hs
      go_enter Try.func11, Try.ntmps11
      go_wp2
      go_ret
      exact ⟨rfl, rfl⟩
    · have d2 : decide (n < 0) = true := by simp; omega
      have d3 : ¬ 0 ≤ n := h0
      clear h e hs
      go_enter Try.func11, Try.ntmps11
      go_wp2
      go_ret
      exact ⟨rfl, rfl⟩
/-- A slice of one's own of numbers. -/
def Tells (w : World) (l : List Int) (e : Ending) (w' : World) : Prop := ∃ A c, e = .returned (.slice A l.length c) ∧ w'.ownsRow w.heap.size 3 1 (.slice A l.length c) l.length (is l) ∧ Below w.heap.size w w'
theorem own_slice {w : World} {base n : Nat} {v : Value} {l : List Int} (h : w.ownsRow base 3 1 v n (is l)) : ∃ A c, v = .slice A n c := by
  rcases h.2 with ⟨rfl, hn⟩ | ⟨g, cap, cur, rfl, _⟩
  · obtain rfl : n = 0 := by have := h.1; rw [hn] at this; simp at this; omega
    exact ⟨_, _, rfl⟩
  · exact ⟨_, _, rfl⟩
set_option maxHeartbeats 1000000 in
theorem members_any (s : Nat) (w : World) (hs : s < 18446744073709551616) :
    Calls Try.prog 25 #[.int .u64 (s : Int)] w (Tells w (mem_ s 64)) := by
  have hA := fun W (k : Nat) => has_any s (k : Int) W hs
  clear hs
  go_enter Try.func25, Try.ntmps25
  go_wp2_with fail
  go_loopw [3, 5] (fun vr kr wr => ∃ j : Nat, j ≤ 64 ∧ kr = .int .i64 (j : Int) ∧ Hid (wr.ownsRow w.heap.size 3 1 vr (mem_ s j).length (is (mem_ s j))) ∧ Hid (Below w.heap.size w wr)) (fun _ kr _ => 66 - (intOf kr).toNat)
  case atStart => exact ⟨0, by omega, rfl, Lib.hid (World.ownsRow_nil _ _ _ _), Lib.hid (Below.refl _ _)⟩
  case round =>
    obtain ⟨j, hj, rfl, HO, HBl⟩ := hrel
    by_cases hlt : j < 64
    · have hA := fun W => hA W j
      rw [inB_nat s j hlt] at hA
      have HLT := Lib.hid hlt
      have d1 : decide ((j : Int) < 64) = true := by simp; omega
      have hpl : (mem_ s j).length ≤ 64 := Nat.le_trans (mem_len s j) hj
      have hsz := HBl.out.size
      have hj2 : (j : Int) ≤ 100 := by omega
      cases hb : s.testBit j
      · rw [hb] at hA
        have HM := Lib.hid (mem_no hb)
        clear hb hlt
        go_wp2_with (go_at_call 22; (with_reducible refine (hA _).mono ?_); rintro e w3 ⟨rfl, rfl⟩)
        go_roundw
        case rel => exact ⟨j + 1, by have := HLT.out; omega, by go_num, by rw [HM.out]; exact HO, HBl⟩
        case measure => have := HLT.out; simp [intOf]; omega
      · rw [hb] at hA
        have HM := Lib.hid (mem_yes hb)
        clear hb hlt
        go_wp2_with (first
          | (go_at_call 22; (with_reducible refine (hA _).mono ?_); rintro e w3 ⟨rfl, rfl⟩)
          | (at_builtin; refine wpL_app rfl _ _ _ _ rfl ElemI rfl rfl (HO.out.alloc _) (Src.lit Try.underlying42 _ rfl (by intro u hu; simp at hu; subst hu; rfl)) (by unfold maxLen; omega) (by omega) (by simp; omega) ?_; intro v2 w2 hown2 hg2 hat2))
        go_roundw
        case rel =>
          refine ⟨j + 1, by have := HLT.out; omega, by go_num, Lib.hid ?_, Lib.hid ((HBl.out.alloc hsz _).grown hg2 (by simp; omega) (fun k e => (HO.out.lt k e).1))⟩
          rw [HM.out, List.length_append, is_app]
          exact hown2
        case measure => have := HLT.out; simp [intOf]; omega
    · obtain rfl : j = 64 := by omega
      have d1 : decide (((64 : Nat) : Int) < 64) = false := by simp
      obtain ⟨A, c, rfl⟩ := own_slice HO.out
      go_wp2
      go_ret
      exact ⟨A, c, rfl, HO.out, HBl.out⟩
end Go.Proofs.Ytenloljcaolkfaa.Qu

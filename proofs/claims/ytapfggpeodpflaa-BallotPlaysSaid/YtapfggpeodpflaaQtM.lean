/- Members, the program's and the reference's; the reference's Has and Majority. slices.Sort as far as twelve numbers; what is told of nodes; the chapter's example. -/
import Derived.Test.YtapfggpeodpflaaQaM
import Derived.Deep.DeepCutAuto
import Derived.Deep.CutBlock
import Derived.Test.YtapfggpeodpflaaQiM
namespace Go.Proofs.Ytapfggpeodpflaa.Qu
open Go.RowKit
set_option maxRecDepth 20000

theorem ElemI : Elem Try.prog 42 3 (.int .i64 0) 1 8 := Elem.mk_ Try.underlying42 (by kernel_rfl) rfl (by decide)
theorem grow_below {w w' : World} (h : Below w.heap.size w w') : w.grownBy w' none := ⟨h.os, h.tape, h.output, h.size, fun i hi _ => h.block i hi⟩
/-- The nodes of a set below a number, as numbers. -/
def mem_ (s k : Nat) : List Int := ((List.range k).filter s.testBit).map (fun (i : Nat) => (i : Int))
theorem mem_len (s k : Nat) : (mem_ s k).length ≤ k := by
  unfold mem_
  rw [List.length_map]
  have := List.length_filter_le s.testBit (List.range k)
  rw [List.length_range] at this
  exact this
theorem mem_yes {s k : Nat} (h : s.testBit k = true) : mem_ s (k + 1) = mem_ s k ++ [(k : Int)] := by
  unfold mem_; rw [List.range_succ, List.filter_append]; simp [h]
theorem mem_no {s k : Nat} (h : s.testBit k = false) : mem_ s (k + 1) = mem_ s k := by
  unfold mem_; rw [List.range_succ, List.filter_append]; simp [h]
theorem mem_64 (s : Nat) : mem_ s 64 = (memb s).map (fun (i : Nat) => (i : Int)) := rfl
theorem rhas_any (s : Nat) (n : Int) (w : World) (hs : s < 18446744073709551616) :
    Calls Try.prog 11 #[.int .u64 (s : Int), .int .i64 n] w fun e w' => e = .returned (.bool (inB s n)) ∧ w = w' := by
  by_cases h : 0 ≤ n ∧ n < 64
  · obtain ⟨h1, h2⟩ := h
    obtain ⟨k, rfl⟩ : ∃ k : Nat, n = (k : Int) := ⟨n.toNat, by omega⟩
    have hk : k < 64 := by omega
    rw [inB_nat s k hk]
    have HS := Lib.hid hs
    have d1 : decide (0 ≤ (k : Int)) = true := by simp
    have d2 : decide ((63 : Int) < (k : Int)) = false := by simp; omega
    have h3 : (k : Int) ≤ 63 := by omega
    have HK := Lib.hid hk
    clear hs h2 hk
    go_enter Try.func11, Try.ntmps11
    go_wp2_with (fail)
    go_loop [0, 5] (fun sr ir => ∃ i : Nat, i ≤ k ∧ ir = .int .i64 (i : Int) ∧ sr = .int .u64 ((s / 2 ^ i : Nat) : Int)) (fun _ ir => k - (intOf ir).toNat)
    case atStart => exact ⟨0, Nat.zero_le _, rfl, by simp⟩
    case round =>
      obtain ⟨i, hi, rfl, rfl⟩ := hrel
      have hst : s / 2 ^ i / 2 = s / 2 ^ (i + 1) := by rw [Nat.div_div_eq_div_mul, Nat.pow_succ]
      have hb : s.testBit i = decide (s / 2 ^ i % 2 = 1) := by rw [Nat.testBit_eq_decide_div_mod_eq]
      have hq : s / 2 ^ i < 18446744073709551616 := Nat.lt_of_le_of_lt (Nat.div_le_self _ _) HS.out
      have HST := Lib.hid hst
      have HB := Lib.hid hb
      clear hst hb
      generalize s / 2 ^ i = q at *
      by_cases hlt : i < k
      · go_wp2
        go_round
        case rel => exact ⟨i + 1, by omega, by go_num, by rw [← HST.out]; go_num⟩
        case measure => simp [intOf]; omega
      · obtain rfl : i = k := by omega
        go_wp2
        go_ret
        exact ⟨ret_bool (by rw [HB.out, Bool.eq_iff_iff]; simp; omega), rfl⟩
  · have e : inB s n = false := by
      unfold inB
      by_cases h0 : 0 ≤ n
      · have : ¬ n < 64 := fun h1 => h ⟨h0, h1⟩
        simp [this]
      · simp [h0]
    rw [e]
    by_cases h0 : 0 ≤ n
    · have d2 : decide ((63 : Int) < n) = true := by simp; omega
      clear h e hs
      go_enter Try.func11, Try.ntmps11
      go_wp2
      go_ret
      exact ⟨rfl, rfl⟩
    · have d2 : decide (n < 0) = true := by simp; omega
      have d3 : ¬ 0 ≤ n := h0
      clear h e hs
      go_enter Try.func11, Try.ntmps11
      go_wp2
      go_ret
      exact ⟨rfl, rfl⟩
/-- A slice of one's own of numbers. -/
def Tells (w : World) (l : List Int) (e : Ending) (w' : World) : Prop := ∃ A c, e = .returned (.slice A l.length c) ∧ w'.ownsRow w.heap.size 3 1 (.slice A l.length c) l.length (is l) ∧ Below w.heap.size w w'
theorem own_slice {w : World} {base n : Nat} {v : Value} {l : List Int} (h : w.ownsRow base 3 1 v n (is l)) : ∃ A c, v = .slice A n c := by
  rcases h.2 with ⟨rfl, hn⟩ | ⟨g, cap, cur, rfl, _⟩
  · obtain rfl : n = 0 := by have := h.1; rw [hn] at this; simp at this; omega
    exact ⟨_, _, rfl⟩
  · exact ⟨_, _, rfl⟩
set_option maxHeartbeats 1000000 in
theorem members_any (s : Nat) (w : World) (hs : s < 18446744073709551616) :
    Calls Try.prog 25 #[.int .u64 (s : Int)] w (Tells w (mem_ s 64)) := by
  have hA := fun W (k : Nat) => has_any s (k : Int) W hs
  clear hs
  go_enter Try.func25, Try.ntmps25
  go_wp2_with fail
  go_loopw [3, 5] (fun vr kr wr => ∃ j : Nat, j ≤ 64 ∧ kr = .int .i64 (j : Int) ∧ Hid (wr.ownsRow w.heap.size 3 1 vr (mem_ s j).length (is (mem_ s j))) ∧ Hid (Below w.heap.size w wr)) (fun _ kr _ => 66 - (intOf kr).toNat)
  case atStart => exact ⟨0, by omega, rfl, Lib.hid (World.ownsRow_nil _ _ _ _), Lib.hid (Below.refl _ _)⟩
  case round =>
    obtain ⟨j, hj, rfl, HO, HBl⟩ := hrel
    by_cases hlt : j < 64
    · have hA := fun W => hA W j
      rw [inB_nat s j hlt] at hA
      have HLT := Lib.hid hlt
      have d1 : decide ((j : Int) < 64) = true := by simp; omega
      have hpl : (mem_ s j).length ≤ 64 := Nat.le_trans (mem_len s j) hj
      have hsz := HBl.out.size
      have hj2 : (j : Int) ≤ 100 := by omega
      cases hb : s.testBit j
      · rw [hb] at hA
        have HM := Lib.hid (mem_no hb)
        clear hb hlt
        go_wp2_with (go_at_call 22; (with_reducible refine (hA _).mono ?_); rintro e w3 ⟨rfl, rfl⟩)
        go_roundw
        case rel => exact ⟨j + 1, by have := HLT.out; omega, by go_num, by rw [HM.out]; exact HO, HBl⟩
        case measure => have := HLT.out; simp [intOf]; omega
      · rw [hb] at hA
        have HM := Lib.hid (mem_yes hb)
        clear hb hlt
        go_wp2_with (first
          | (go_at_call 22; (with_reducible refine (hA _).mono ?_); rintro e w3 ⟨rfl, rfl⟩)
          | (at_builtin; refine wpL_app rfl _ _ _ _ rfl ElemI rfl rfl (HO.out.alloc _) (Src.lit Try.underlying42 _ rfl (by intro u hu; simp at hu; subst hu; rfl)) (by unfold maxLen; omega) (by omega) (by simp; omega) ?_; intro v2 w2 hown2 hg2 hat2))
        go_roundw
        case rel =>
          refine ⟨j + 1, by have := HLT.out; omega, by go_num, Lib.hid ?_, Lib.hid ((HBl.out.alloc hsz _).grown hg2 (by simp; omega) (fun k e => (HO.out.lt k e).1))⟩
          rw [HM.out, List.length_append, is_app]
          exact hown2
        case measure => have := HLT.out; simp [intOf]; omega
    · obtain rfl : j = 64 := by omega
      have d1 : decide (((64 : Nat) : Int) < 64) = false := by simp
      obtain ⟨A, c, rfl⟩ := own_slice HO.out
      go_wp2
      go_ret
      exact ⟨A, c, rfl, HO.out, HBl.out⟩
end Go.Proofs.Ytapfggpeodpflaa.Qu

namespace Go.Proofs.Ytapfggpeodpflaa.Qu
open Go.RowKit
open Go.Sort (insertionSort)

theorem tab_val (i : Int) (h0 : 0 ≤ i) (h1 : i < 256) (h : i.toNat < Lib.len8tab.size) : (((Lib.len8tab[i.toNat]'h).toNat : Nat) : Int) = ((Lib.bitLen i.toNat : Nat) : Int) := by
  rw [← Lib.len8_of i h0 (by omega)]
  unfold Lib.len8
  rw [ByteArray.getElem?_lt' _ _ h]
  rfl
theorem tab_fin (k b : Nat) (x : Int) (h : b ≤ 8) (hk : k ≤ 56) (e : ((k + b : Nat) : Int) = x) : wrap64 ((k : Int) + wrap64 (b : Int)) = x := by
  rw [← e]
  unfold wrap64
  omega
set_option maxHeartbeats 1000000 in
set_option maxRecDepth 100000 in
theorem len_small (x : Int) (w : World) (h0 : 0 ≤ x) (h1 : x ≤ 199) :
    Calls Try.prog 65 #[.int .u64 x] w fun e w' => e = .returned (.int .i64 (Lib.bitLen x.toNat : Int)) ∧ w = w' := by
  have t9 := Try.underlying9
  go_enter Try.func65, Try.ntmps65
  go_wp2
  all_goals (first | (exfalso; rw [Lib.len8tab_size] at *; omega) | (go_ret; refine ⟨congrArg Ending.returned (congrArg (Value.int IntKind.i64) ?_), rfl⟩))
  rw [tab_val x (by omega) (by omega)]
  have l := Lib.bitLen_le8' x (by omega) (by omega)
  unfold wrap64
  omega
theorem len_any (n : Nat) (w : World) (h : n ≤ 199) :
    Calls Try.prog 49 #[.int .u64 (n : Int)] w fun e w' => e = .returned (.int .i64 (Lib.bitLen n : Int)) ∧ w = w' := by
  have hA := len_small (n : Int) w (by omega) (by omega)
  rw [Int.toNat_natCast] at hA
  generalize Lib.bitLen n = l at *
  go_enter Try.func49, Try.ntmps49
  go_wp2_with (go_at_call 65; (with_reducible refine hA.mono ?_); rintro e w' ⟨rfl, rfl⟩)
  go_ret
  exact ⟨rfl, rfl⟩
/-- What a sort leaves. -/
def Sorted (w : World) (g : Nat) (D : Array Nat) (e : Ending) (w' : World) : Prop := e = .returned (.tuple #[]) ∧ Arr w' g D ∧ Trn w g w'
theorem pdq_few {w : World} {g n c : Nat} {d : Array Nat} (l : Int) (h : Arr w g d) (hd : d.size = n) (hn : n ≤ 12) :
    Calls Try.prog 48 #[.slice (some ⟨g, 0, none⟩) n c, .int .i64 0, .int .i64 (n : Int), .int .i64 l] w (Sorted w g (insertionSort ltN d 0 n)) := by
  have hI := Lib.hid (ins_any (c := c) 0 n h hd (Nat.zero_le _) (Nat.le_refl _) (by omega))
  generalize insertionSort ltN d 0 n = D at *
  have hn12 : (n : Int) ≤ 12 := by omega
  have hn0 : 0 ≤ (n : Int) := by omega
  have d1 : decide (n ≤ 12) = true := by simpa using hn
  clear h hd hn
  set_option maxRecDepth 100000 in
  go_enter Try.func48, Try.ntmps48
  go_wp2
  refine wp_loop_rounds 1 ?_
  rw [rounds_succ]
  go_wp2_with (go_at_call 55; refine hI.out.mono ?_; rintro e w' ⟨rfl, hq⟩)
  (try simp only [Exit.inBlock, Exit.then]); refine bodyPost_ret (results_none rfl _ _ _) rfl ?_
  exact ⟨rfl, hq⟩
theorem sort_of {w : World} {g n c : Nat} {D : Array Nat} (hn : n ≤ 199) (hp : ∀ l : Nat, l ≤ 8 → Calls Try.prog 48 #[.slice (some ⟨g, 0, none⟩) n c, .int .i64 0, .int .i64 (n : Int), .int .i64 (l : Int)] w (Sorted w g D)) :
    Calls Try.prog 36 #[.slice (some ⟨g, 0, none⟩) n c] w (Sorted w g D) := by
  have hL := fun W => len_any n W hn
  have hl8 := Lib.bitLen_le8' (n : Int) (by omega) (by omega)
  rw [Int.toNat_natCast] at hl8
  have hp := Lib.hid (hp _ hl8)
  generalize Lib.bitLen n = l at *
  have hn1 : (n : Int) ≤ 199 := by omega
  have hn0 : 0 ≤ (n : Int) := by omega
  clear hn hl8
  go_enter Try.func36, Try.ntmps36
  go_wp2_with (first
    | (go_at_call 49; (with_reducible refine (hL _).mono ?_); rintro e w' ⟨rfl, rfl⟩)
    | (go_at_call 48; refine hp.out.mono ?_; rintro e w' ⟨rfl, hq⟩)
    | fail)
  go_end0
  exact ⟨rfl, hq⟩
end Go.Proofs.Ytapfggpeodpflaa.Qu

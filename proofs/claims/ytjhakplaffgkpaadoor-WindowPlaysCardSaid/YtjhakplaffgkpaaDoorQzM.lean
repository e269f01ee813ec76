/- slices.breakPatternsOrdered. slices.reverseRangeOrdered. slices.pdqsortOrdered, and slices.Sort: what is sorted is sorted. -/
import Derived.Test.YtjhakplaffgkpaaDoorQtM
import Derived.Sort.LotD3
import Derived.Test.YtjhakplaffgkpaaDoorQiM
import Derived.Sort.AssemblyPlain
namespace Go.Proofs.YtjhakplaffgkpaaDoor.Qu
open Go.RowKit
open Go.Sort (PermIn swp swp_permIn permIn_trans permIn_refl)

theorem len_facts : ∀ n : Fin 200, n.val < 2 ^ Lib.bitLen n.val ∧ (1 ≤ n.val → 2 ^ Lib.bitLen n.val ≤ 2 * n.val) ∧ Lib.bitLen n.val ≤ 8 := by decide +kernel
theorem pow2_any (n : Nat) (w : World) (hn : n ≤ 199) :
    Calls Tryd.prog 64 #[.int .i64 (n : Int)] w fun e w' => e = .returned (.int .u64 ((2 ^ Lib.bitLen n : Nat) : Int)) ∧ w = w' := by
  have hL := fun W => len_any n W hn
  have hf := (len_facts ⟨n, by omega⟩).2.2
  have e1 := shl_op (yk := .i64) (Lib.bitLen n) ((Lib.bitLen n : Nat) : Int) (by dsimp only at hf; omega) rfl
  have hnI : (n : Int) ≤ 199 := by omega
  clear hf
  generalize Lib.bitLen n = l at *
  generalize 2 ^ l = M at *
  go_enter Tryd.func64, Tryd.ntmps64
  go_wp2_with (go_at_call 51; (with_reducible refine (hL _).mono ?_); rintro e w' ⟨rfl, rfl⟩)
  go_ret
  exact ⟨rfl, rfl⟩
theorem Rc.far {w : World} {p g i : Nat} (h : Rc w p) (hg : g ≠ p) (u : Value) : Rc (w.setCell ⟨g, i, none⟩ u) p := by
  obtain ⟨x, hx, p0, p1⟩ := h
  exact ⟨x, hx, by rw [World.cell?_setCell_other w ⟨g, i, none⟩ ⟨p, 0, none⟩ u (fun q => hg (by cases q; rfl))]; exact p0, by rw [World.frozen?_setCell]; exact p1⟩
theorem Trn.new {w w1 w2 : World} {g p : Nat} (h : Trn w g w1) (k : Trn w1 p w2) (hp : w.heap.size ≤ p) : Trn w g w2 := by
  refine ⟨k.os.trans h.os, k.tape.trans h.tape, k.output.trans h.output, Nat.le_trans h.size k.size, fun i hi hne => ?_⟩
  exact (k.block i (Nat.lt_of_lt_of_le hi h.size) (by intro e; cases e; omega)).trans (h.block i hi hne)
def BkL (w : World) (g n a b p : Nat) (d : Array Nat) (wr : World) : Prop := ∃ d', Arr wr g d' ∧ d'.size = n ∧ PermIn a b d d' ∧ Trn w g wr ∧ Rc wr p
/-- What a permutation within a range leaves. -/
def Pm (w : World) (g a b : Nat) (d : Array Nat) (e : Ending) (w' : World) : Prop := ∃ d', e = .returned (.tuple #[]) ∧ Arr w' g d' ∧ PermIn a b d d' ∧ Trn w g w'
theorem perm_swp {a b i j : Nat} {d d' : Array Nat} (h : PermIn a b d d') (h1 : a ≤ i) (h2 : i < b) (h3 : a ≤ j) (h4 : j < b) (h5 : b ≤ d'.size) : PermIn a b d (swp d' i j) :=
  permIn_trans _ _ _ _ _ h (swp_permIn _ _ _ _ _ h1 h2 h3 h4 h5)
set_option maxHeartbeats 4000000 in
set_option maxRecDepth 100000 in
theorem break_any {w : World} {g n c : Nat} {d : Array Nat} (a b : Nat) (h : Arr w g d) (hd : d.size = n) (hb : b ≤ n) (hn : n ≤ 199) (hab : a + 12 < b) :
    Calls Tryd.prog 55 #[.slice (some ⟨g, 0, none⟩) n c, .int .i64 (a : Int), .int .i64 (b : Int)] w (Pm w g a b d) := by
  obtain ⟨l, hl⟩ : ∃ l, b = a + l := ⟨b - a, by omega⟩
  obtain ⟨q, hq⟩ : ∃ q, q = l / 4 := ⟨_, rfl⟩
  have eb : (b : Int) - (a : Int) = (l : Int) := by omega
  have eq : (l : Int) / 4 = (q : Int) := by omega
  have hP := fun W => pow2_any l W (by omega)
  obtain ⟨f1, f2, f3⟩ := len_facts ⟨l, by omega⟩
  dsimp only at f1 f2 f3
  have f2 := f2 (by omega)
  obtain ⟨M, hM⟩ : ∃ M, M = 2 ^ Lib.bitLen l := ⟨_, rfl⟩
  have HMD := Lib.hid (fun (x : Nat) (hx : x < 18446744073709551616) => show bits .and .u64 (x : Int) ((M : Int) - 1) = ((x % M : Nat) : Int) by
    have h1 : ((M - 1 : Nat) : Int) = (M : Int) - 1 := by omega
    have h2 : M - 1 < 18446744073709551616 := by omega
    rw [← h1, bits_and_u64_nat x _ hx h2, hM, Nat.and_two_pow_sub_one_eq_mod])
  rw [← hM] at hP f1 f2
  have HN := Lib.hid (fun (W : World) (p : Nat) (h : Rc W p) => next_any h)
  obtain ⟨W, hW, hWs, r0, hwW⟩ := boxes1 w #[.int .u64 (l : Int)] 95
  have hgp : g ≠ w.heap.size := by have := h.here; omega
  have H0 : Hid (BkL w g n a b w.heap.size d W) := Lib.hid ⟨d, h.below hwW, hd, permIn_refl d a b, ⟨hwW.os, hwW.tape, hwW.output, hwW.size, fun i hi _ => hwW.block i hi⟩, l, by omega, cell_of_row W _ 0 _ _ _ r0, frozen_of_row W _ 0 _ _ r0⟩
  have haI : (a : Int) ≤ 199 := by omega
  have hbI : (b : Int) ≤ 199 := by omega
  have hqI : (q : Int) ≤ 199 := by omega
  have hlI : (l : Int) ≤ 199 := by omega
  have hMI : (M : Int) ≤ 500 := by omega
  have hM1 : (1 : Int) ≤ (M : Int) := by omega
  have t1 : decide ((8 : Int) ≤ (l : Int)) = true := decide_eq_true (by omega)
  have t2 : decide (8 ≤ l) = true := decide_eq_true (by omega)
  have hl8 : (8 : Int) ≤ (l : Int) := by omega
  have hq3 : 3 ≤ q := by omega
  have hqb : a + q * 2 + 1 < b := by omega
  have HLL := Lib.hid hl
  have HGP := Lib.hid hgp
  have hWl : (l : Int) < 18446744073709551616 := by omega
  clear h hd hl hq r0 hWs hwW hgp hM f3
  go_enter Tryd.func55, Tryd.ntmps55
  go_upto_region 3 with (fail)
  rw [← hW]
  clear hW
  go_wp2_with (first
    | (go_at_call 64; (with_reducible refine (hP _).mono ?_); rintro e w3 ⟨rfl, rfl⟩)
    | fail)
  go_loopw [9] (fun ir wr => ∃ i : Nat, a ≤ i ∧ i ≤ a + q * 2 + 2 ∧ ir = .int .i64 (i : Int) ∧ Hid (BkL w g n a b w.heap.size d wr)) (fun ir _ => a + q * 2 + 2 - (intOf ir).toNat)
  case atStart => exact ⟨a + (q * 2 - 1), by omega, by omega, by congr 1; omega, H0⟩
  case round =>
    clear H0 hP
    obtain ⟨i, hi1, hi2, rfl, HL⟩ := hrel
    obtain ⟨d5, ha2, hs2, hp2, ht2, hr2⟩ := HL.out
    have HNX := Lib.hid (HN.out wr w.heap.size hr2)
    have HS2 := Lib.hid hs2
    have HP2 := Lib.hid hp2
    have HA2 := Lib.hid ha2
    have HT2 := Lib.hid ht2
    have hiI : (i : Int) ≤ 500 := by omega
    clear HL ha2 hs2 hp2 ht2 hr2
    by_cases hi3 : i ≤ a + q * 2 + 1
    · have s1 : decide ((i : Int) ≤ (a : Int) + (q : Int) * 2 + 1) = true := decide_eq_true (by omega)
      have s2 : (i : Int) ≤ (a : Int) + (q : Int) * 2 + 1 := by omega
      go_upto_region 8 with (first
        | (go_at_call 65; (with_reducible refine HNX.out.mono ?_); clear HNX; rintro e w1 ⟨x, hx, rfl, hr1, ht1⟩
           have hmd := HMD.out x hx
           have ho := Nat.mod_lt x (show 0 < M by omega)
           generalize x % M = o at *
           have hoI : (o : Int) ≤ 500 := by omega
           have HR1 := Lib.hid hr1
           have HA1 := Lib.hid (HA2.out.far ht1 HGP.out)
           have HT1 := Lib.hid (HT2.out.new ht1 (Nat.le_refl _))
           clear hr1 ht1)
        | fail)
      have HLB := HLL.out
      by_cases hol : l ≤ o
      · obtain ⟨t, et⟩ : ∃ t, o = l + t := ⟨o - l, by omega⟩
        have eo : (o : Int) - (l : Int) = (t : Int) := by omega
        have s3 : decide ((l : Int) ≤ (o : Int)) = true := decide_eq_true (by omega)
        have s4 : decide (l ≤ o) = true := decide_eq_true hol
        have htl : t < l := by omega
        clear et
        have ht : t < l := by omega
        have ha5 := HA1.out
        have hs5 := HS2.out
        have b1 : a + t < n := by omega
        have b2 : (a : Int) + (t : Int) < (n : Int) := by omega
        have b3 : i < n := by omega
        have b4 : (i : Int) < (n : Int) := by omega
        have b5 : (t : Int) ≤ 199 := by omega
        have v1 : ((a : Int) + (t : Int)).toNat = a + t := by omega
        have v2 : 0 ≤ (a : Int) + (t : Int) := by omega
        have w1' : IntKind.i64.wrap ((a : Int) + (t : Int)) = (a : Int) + (t : Int) := IntWalk.i64_in _ (by omega)
        have HPM := Lib.hid (perm_swp HP2.out (i := i) (j := a + t) (by omega) (by omega) (by omega) (by omega) (by rw [hs5]; omega))
        by_cases heq : i = a + t
        · have HSW := Lib.hid ((ha5.swp (i := i) (j := a + t) (by omega) (by omega)).drew)
          rw [← heq] at HSW HPM b1 v1
          have c0 := ha5.cell i (by omega)
          have z0 := ha5.free i (by omega)
          have heI : (a : Int) + (t : Int) = (i : Int) := by omega
          clear ha5 hs5 b2 v1 v2 w1' ht heq b1
          generalize d5[i]! = u at *
          go_wp2_with (fail)
          go_big_region
          all_goals go_wp2
          all_goals go_roundw
          case rel => exact ⟨i + 1, by omega, by omega, by go_num, Lib.hid ⟨_, HSW.out, by rw [swp_size]; exact HS2.out, HPM.out, (((HT1.out.set _ _).set _ _).drew), ((HR1.out.far HGP.out _).far HGP.out _).drew⟩⟩
          case measure => simp [intOf]; omega
        · have HSW := Lib.hid ((ha5.swp (i := i) (j := a + t) (by omega) (by omega)).drew)
          have n1 : ¬ i = a + t := heq
          have n2 : ¬ a + t = i := by omega
          have c0 := ha5.cell i (by omega)
          have z0 := ha5.free i (by omega)
          have c1 := ha5.cell (a + t) (by omega)
          have z1 := ha5.free (a + t) (by omega)
          have HI3 := Lib.hid hi3
          clear ha5 hs5 ht heq
          generalize d5[i]! = u at *
          generalize d5[a + t]! = v at *
          go_wp2_with (fail)
          go_big_region
          all_goals clear w1'
          all_goals go_wp2
          all_goals go_roundw
          case rel => exact ⟨i + 1, by omega, by have := HI3.out; omega, by go_num, Lib.hid ⟨_, HSW.out, by rw [swp_size]; exact HS2.out, HPM.out, (((HT1.out.set _ _).set _ _).drew), ((HR1.out.far HGP.out _).far HGP.out _).drew⟩⟩
          case measure => have := HI3.out; simp [intOf]; omega
      · have s3 : decide ((l : Int) ≤ (o : Int)) = false := decide_eq_false (by omega)
        have s4 : decide (l ≤ o) = false := decide_eq_false hol
        have ht : o < l := by omega
        have ha5 := HA1.out
        have hs5 := HS2.out
        have b1 : a + o < n := by omega
        have b2 : (a : Int) + (o : Int) < (n : Int) := by omega
        have b3 : i < n := by omega
        have b4 : (i : Int) < (n : Int) := by omega
        have b5 : (o : Int) ≤ 199 := by omega
        have v1 : ((a : Int) + (o : Int)).toNat = a + o := by omega
        have v2 : 0 ≤ (a : Int) + (o : Int) := by omega
        have w1' : IntKind.i64.wrap ((a : Int) + (o : Int)) = (a : Int) + (o : Int) := IntWalk.i64_in _ (by omega)
        have HPM := Lib.hid (perm_swp HP2.out (i := i) (j := a + o) (by omega) (by omega) (by omega) (by omega) (by rw [hs5]; omega))
        by_cases heq : i = a + o
        · have HSW := Lib.hid ((ha5.swp (i := i) (j := a + o) (by omega) (by omega)).drew)
          rw [← heq] at HSW HPM b1 v1
          have c0 := ha5.cell i (by omega)
          have z0 := ha5.free i (by omega)
          have heI : (a : Int) + (o : Int) = (i : Int) := by omega
          clear ha5 hs5 b2 v1 v2 w1' ht heq b1
          generalize d5[i]! = u at *
          go_wp2_with (fail)
          go_big_region
          all_goals go_wp2
          all_goals go_roundw
          case rel => exact ⟨i + 1, by omega, by omega, by go_num, Lib.hid ⟨_, HSW.out, by rw [swp_size]; exact HS2.out, HPM.out, (((HT1.out.set _ _).set _ _).drew), ((HR1.out.far HGP.out _).far HGP.out _).drew⟩⟩
          case measure => simp [intOf]; omega
        · have HSW := Lib.hid ((ha5.swp (i := i) (j := a + o) (by omega) (by omega)).drew)
          have n1 : ¬ i = a + o := heq
          have n2 : ¬ a + o = i := by omega
          have c0 := ha5.cell i (by omega)
          have z0 := ha5.free i (by omega)
          have c1 := ha5.cell (a + o) (by omega)
          have z1 := ha5.free (a + o) (by omega)
          have HI3 := Lib.hid hi3
          clear ha5 hs5 ht heq
          generalize d5[i]! = u at *
          generalize d5[a + o]! = v at *
          go_wp2_with (fail)
          go_big_region
          all_goals clear w1'
          all_goals go_wp2
          all_goals go_roundw
          case rel => exact ⟨i + 1, by omega, by have := HI3.out; omega, by go_num, Lib.hid ⟨_, HSW.out, by rw [swp_size]; exact HS2.out, HPM.out, (((HT1.out.set _ _).set _ _).drew), ((HR1.out.far HGP.out _).far HGP.out _).drew⟩⟩
          case measure => have := HI3.out; simp [intOf]; omega
    · have s1 : decide ((i : Int) ≤ (a : Int) + (q : Int) * 2 + 1) = false := decide_eq_false (by omega)
      have s2 : ¬ (i : Int) ≤ (a : Int) + (q : Int) * 2 + 1 := by omega
      go_wp2_with (fail)
      go_end0
      exact ⟨d5, rfl, HA2.out, HP2.out, HT2.out⟩
end Go.Proofs.YtjhakplaffgkpaaDoor.Qu

namespace Go.Proofs.YtjhakplaffgkpaaDoor.Qu
open Go.RowKit
open Go.Sort (reverseLoop reverseRange swp)

theorem rev_go {i j : Nat} {d : Array Nat} (h : i < j) : reverseLoop i j d = reverseLoop (i + 1) (j - 1) (swp d i j) := by
  rw [reverseLoop, if_pos h]
theorem rev_end {i j : Nat} {d : Array Nat} (h : ¬ i < j) : reverseLoop i j d = d := by
  rw [reverseLoop, if_neg h]
def RevL (w : World) (g n : Nat) (D : Array Nat) (i j : Nat) (wr : World) : Prop := ∃ d, Arr wr g d ∧ d.size = n ∧ Trn w g wr ∧ reverseLoop i j d = D
set_option maxHeartbeats 2000000 in
theorem rev_any {w : World} {g n c : Nat} {d : Array Nat} (a b : Nat) (h : Arr w g d) (hd : d.size = n) (hab : a < b) (hb : b ≤ n) (hn : n ≤ 1000000) :
    Calls Tryd.prog 57 #[.slice (some ⟨g, 0, none⟩) n c, .int .i64 (a : Int), .int .i64 (b : Int)] w fun e w' => e = .returned (.tuple #[]) ∧ Arr w' g (reverseRange d a b) ∧ Trn w g w' := by
  have H0 := Lib.hid (show RevL w g n (reverseRange d a b) a (b - 1) w from ⟨d, h, hd, Trn.refl w g, rfl⟩)
  generalize reverseRange d a b = D at *
  obtain ⟨m, rfl⟩ : ∃ m, b = m + 1 := ⟨b - 1, by omega⟩
  rw [Nat.add_sub_cancel] at H0
  have HAM : a ≤ m := by omega
  clear h hd
  go_enter Tryd.func57, Tryd.ntmps57
  go_wp2_with (fail)
  go_loopw [6, 7] (fun ir jr wr => ∃ i j : Nat, i ≤ 1000000 ∧ j < n ∧ ir = .int .i64 (i : Int) ∧ jr = .int .i64 (j : Int) ∧ Hid (RevL w g n D i j wr)) (fun ir jr _ => ((intOf jr) - (intOf ir)).toNat)
  case atStart => exact ⟨a, m, by omega, by omega, rfl, by go_num, H0⟩
  case round =>
    clear H0
    obtain ⟨i, j, hi, hj, rfl, rfl, HI⟩ := hrel
    obtain ⟨d2, ha2, hs2, ht2, he2⟩ := HI.out
    clear HI
    by_cases hij : i < j
    · obtain ⟨k, rfl⟩ : ∃ k, j = k + 1 := ⟨j - 1, by omega⟩
      have c0 := ha2.cell i (by omega)
      have c1 := ha2.cell (k + 1) (by omega)
      have z0 := ha2.free i (by omega)
      have z1 := ha2.free (k + 1) (by omega)
      have hG := (rev_go (d := d2) hij).symm.trans he2
      rw [Nat.add_sub_cancel] at hG
      have HG := Lib.hid hG
      have HSW := Lib.hid (fun m => (ha2.drewN m).swp (i := i) (j := k + 1) (by omega) (by omega))
      have HT2 := Lib.hid ht2
      have HS2 := Lib.hid hs2
      have q1 : decide ((i : Int) < (k : Int) + 1) = true := by simp; omega
      have q2 : decide (i < k + 1) = true := by simpa using hij
      have n1 : ¬ i = k + 1 := by omega
      have n2 : ¬ k + 1 = i := by omega
      have b1 : i < n := by omega
      have b2 : (i : Int) < (n : Int) := by omega
      have b3 : (k : Int) + 1 < (n : Int) := by omega
      have HIJ := Lib.hid hij
      have HJ := Lib.hid hj
      clear ha2 hs2 ht2 he2 hG hij
      generalize d2[i]! = x at *
      generalize d2[k + 1]! = y at *
      go_wp2_with (fail)
      go_big_region
      all_goals go_wp2
      all_goals go_roundw
      case rel => exact ⟨i + 1, k, by have := HJ.out; have := HIJ.out; omega, by have := HJ.out; omega, by go_num, rfl, Lib.hid ⟨_, HSW.out _, by rw [swp_size]; exact HS2.out, ((HT2.out.drewN _).set _ _).set _ _, HG.out⟩⟩
      case measure => have := HIJ.out; simp [intOf]; omega
    · have HE : Hid (d2 = D) := Lib.hid (by rw [← he2, rev_end hij])
      have q1 : decide ((i : Int) < (j : Int)) = false := by simp; omega
      have q2 : decide (i < j) = false := by simpa using hij
      have HA2 := Lib.hid ha2
      have HT2 := Lib.hid ht2
      clear ha2 hs2 ht2 he2 hij
      go_wp2_with (fail)
      go_end0
      exact ⟨rfl, HE.out ▸ HA2.out, HT2.out⟩
end Go.Proofs.YtjhakplaffgkpaaDoor.Qu

namespace Go.Proofs.YtjhakplaffgkpaaDoor.Qu
open Go.RowKit
open Go.Sort (PermIn SortedIn swp permIn_trans permIn_refl insertionSort heapSort reverseRange partition partitionEqual partialInsertionSort)

theorem swoN : Go.Sort.SWO ltN := ⟨fun x => by unfold ltN; simp, fun x y z h1 h2 => by unfold ltN at *; simp at *; omega, fun x y z h1 h2 => by unfold ltN at *; simp at *; omega⟩
/-- What a sort of a range leaves. -/
def Pd (w : World) (g a b : Nat) (d : Array Nat) (e : Ending) (w' : World) : Prop := ∃ R, e = .returned (.tuple #[]) ∧ Arr w' g R ∧ PermIn a b d R ∧ SortedIn ltN a b R ∧ Trn w g w'
/-- What stands between two rounds: whoever sorts the range that is left has sorted all. -/
structure Gd1 (w : World) (g n a b : Nat) (d : Array Nat) (a1 b1 : Nat) (d1 : Array Nat) (wr : World) : Prop where
  arr : Arr wr g d1
  sz : d1.size = n
  trn : Trn w g wr
  bel : Go.Sort.Below ltN a1 b1 d1
  fin : ∀ R, PermIn a1 b1 d1 R → SortedIn ltN a1 b1 R → PermIn a b d R ∧ SortedIn ltN a b R
def Gq (w : World) (g n a b : Nat) (d : Array Nat) (a1 b1 : Nat) (wr : World) : Prop := ∃ d1, Gd1 w g n a b d a1 b1 d1 wr
section
variable {w wr w2 : World} {g n a b a1 b1 : Nat} {d d1 d2 : Array Nat}
theorem Gd1.perm (h : Gd1 w g n a b d a1 b1 d1 wr) (hb : b1 ≤ n) (hp : PermIn a1 b1 d1 d2) (ha : Arr w2 g d2) (ht : Trn wr g w2) : Gd1 w g n a b d a1 b1 d2 w2 :=
  ⟨ha, hp.1.trans h.sz, h.trn.trans ht, h.bel.perm (by rw [h.sz]; exact hb) hp, fun R hR hs => h.fin R (permIn_trans _ _ _ _ _ hp hR) hs⟩
theorem Gd1.below (h : Gd1 w g n a b d a1 b1 d1 wr) (hb : Below wr.heap.size wr w2) : Gd1 w g n a b d a1 b1 d1 w2 := ⟨h.arr.below hb, h.sz, h.trn.below hb, h.bel, h.fin⟩
theorem Gd1.drewN (h : Gd1 w g n a b d a1 b1 d1 wr) (m : Nat) : Gd1 w g n a b d a1 b1 d1 (wr.drewN m) := ⟨h.arr.drewN m, h.sz, h.trn.drewN m, h.bel, h.fin⟩
theorem Gd1.done (h : Gd1 w g n a b d a1 b1 d1 wr) (hp : PermIn a1 b1 d1 d2) (hs : SortedIn ltN a1 b1 d2) (ha : Arr w2 g d2) (ht : Trn wr g w2) : Pd w g a b d (.returned (.tuple #[])) w2 :=
  ⟨d2, rfl, ha, (h.fin d2 hp hs).1, (h.fin d2 hp hs).2, h.trn.trans ht⟩
end
set_option maxHeartbeats 16000000 in
set_option maxRecDepth 100000 in
theorem pdq_any {g n c : Nat} (hn : n ≤ 199) (m : Nat) : ∀ (w : World) (d : Array Nat) (a b l : Nat), b - a ≤ m → a ≤ b → b ≤ n → l ≤ 8 → Arr w g d → d.size = n → Go.Sort.Below ltN a b d →
    Calls Tryd.prog 50 #[.slice (some ⟨g, 0, none⟩) n c, .int .i64 (a : Int), .int .i64 (b : Int), .int .i64 (l : Int)] w (Pd w g a b d) := by
  induction m using Nat.strongRecOn with
  | ind m ih =>
  intro w d a b l hm hab hb hl h hd hB
  have IH := Lib.hid ih
  have H0 : Hid (Gq w g n a b d a b w) := Lib.hid ⟨d, h, hd, Trn.refl w g, hB, fun R h1 h2 => ⟨h1, h2⟩⟩
  have HD := Lib.hid hd
  clear h hd hB ih
  go_enter Tryd.func50, Tryd.ntmps50
  go_wp2_with (fail)
  go_loopw [1, 2, 3, 8, 9] (fun ar br lr xr yr wr => ∃ (a1 b1 l1 : Nat) (wb wp : Bool), a ≤ a1 ∧ a1 ≤ b1 ∧ b1 ≤ b ∧ l1 ≤ 8 ∧ ar = .int .i64 (a1 : Int) ∧ br = .int .i64 (b1 : Int) ∧ lr = .int .i64 (l1 : Int) ∧ xr = .bool wb ∧ yr = .bool wp ∧ Hid (Gq w g n a b d a1 b1 wr)) (fun ar br _ _ _ _ => (intOf br - intOf ar).toNat)
  case atStart => exact ⟨a, b, l, true, true, Nat.le_refl _, hab, Nat.le_refl _, hl, rfl, rfl, rfl, rfl, rfl, H0⟩
  case round =>
    clear H0 hl
    obtain ⟨a1, b1, l1, wb, wp, ha1, hab1, hb1, hl1, rfl, rfl, rfl, rfl, rfl, HQ⟩ := hrel
    obtain ⟨d1, hg1⟩ := HQ.out
    have i1 : (a1 : Int) ≤ (b1 : Int) := by omega
    have i2 : (b1 : Int) ≤ 199 := by omega
    have i3 : (l1 : Int) ≤ 8 := by omega
    clear HQ
    by_cases h12 : b1 - a1 ≤ 12
    · have t1 : decide ((b1 : Int) - (a1 : Int) ≤ 12) = true := decide_eq_true (by omega)
      have t2 : (b1 : Int) - (a1 : Int) ≤ 12 := by omega
      have HI := Lib.hid (ins_any (c := c) a1 b1 hg1.arr hg1.sz hab1 (by omega) (by omega))
      have hs := Go.Sort.insertionSort_holds (lt := ltN) swoN d1 a1 b1 hab1 (by rw [hg1.sz]; omega)
      have HG := Lib.hid hg1
      have HS := Lib.hid hs
      clear hg1 hs h12
      generalize insertionSort ltN d1 a1 b1 = d2 at *
      go_wp2_with (first
        | (go_at_call 53; (with_reducible refine HI.out.mono ?_); rintro e w5 ⟨rfl, ha5, ht5⟩)
        | fail)
      (try simp only [Exit.inBlock, Exit.then])
      refine bodyPost_ret (results_none rfl _ _ _) rfl ?_
      exact HG.out.done HS.out.1 HS.out.2 ha5 ht5
    · have t1 : decide ((b1 : Int) - (a1 : Int) ≤ 12) = false := decide_eq_false (by omega)
      have t2 : ¬ (b1 : Int) - (a1 : Int) ≤ 12 := by omega
      have h13 : a1 + 12 < b1 := by omega
      by_cases hl0 : l1 = 0
      · subst hl0
        have HI := Lib.hid (heap_any (c := c) a1 b1 hg1.arr hg1.sz (by omega) (by omega) (by omega))
        have hs := Go.Sort.heapSort_holds (lt := ltN) swoN d1 a1 b1 hab1 (by rw [hg1.sz]; omega)
        have HG := Lib.hid hg1
        have HS := Lib.hid hs
        clear hg1 hs h12
        generalize heapSort ltN d1 a1 b1 = d2 at *
        go_wp2_with (first
          | (go_at_call 54; (with_reducible refine HI.out.mono ?_); rintro e w5 ⟨rfl, ha5, ht5⟩)
          | fail)
        (try simp only [Exit.inBlock, Exit.then])
        refine bodyPost_ret (results_none rfl _ _ _) rfl ?_
        exact HG.out.done HS.out.1 HS.out.2 ha5 ht5
      · have z1 : ((l1 : Int) == 0) = false := by simp; omega
        have z2 : ¬ l1 = 0 := hl0
        have z3 : ¬ (l1 : Int) = 0 := by omega
        have i4 : (1 : Int) ≤ (l1 : Int) := by omega
        have HG1 := Lib.hid hg1
        clear hg1 h12 hl0
        go_upto_if 35 with (fail)
        go_cut [3, 8, 34, 35] from 36 to 41 (fun lr br cr dr wq => ∃ l2 : Nat, l2 ≤ 8 ∧ lr = .int .i64 (l2 : Int) ∧ br = .bool wb ∧ Hid (Gq w g n a b d a1 b1 wq))
        case first =>
          have HBK := Lib.hid (break_any (c := c) a1 b1 HG1.out.arr HG1.out.sz (by omega) hn h13)
          cases wb with
          | true =>
            go_wp2_with (fail)
            go_meet
            case rel => exact ⟨l1, hl1, rfl, rfl, Lib.hid ⟨d1, HG1.out⟩⟩
          | false =>
            go_wp2_with (first
              | (go_at_call 55; (with_reducible refine HBK.out.mono ?_); rintro e w5 ⟨d2, rfl, ha5, hp5, ht5⟩; have HN := Lib.hid (show Gq w g n a b d a1 b1 w5 from ⟨d2, HG1.out.perm (by omega) hp5 ha5 ht5⟩); clear ha5 hp5 ht5)
              | fail)
            go_meet
            case rel => exact ⟨l1 - 1, by omega, by congr 1; omega, rfl, HN⟩
        case rest =>
          obtain ⟨l2, hl2, rfl, rfl, HQ2⟩ := hcut
          clear HG1 z1 z2 z3 i4 i3 hl1
          obtain ⟨d2, hg2⟩ := HQ2.out
          have HCH := Lib.hid (choose_any (c := c) a1 b1 hg2.arr hg2.sz (by omega) (by omega) h13)
          have HG2 := Lib.hid hg2
          clear hg2 HQ2
          go_upto_if 50 with (first
            | (go_at_call 56; (with_reducible refine HCH.out.mono ?_); clear HCH; rintro e w6 ⟨pv, hh, rfl, hp1, hp2, hh3, hb6⟩; have HG3 := Lib.hid (HG2.out.below hb6); clear hb6 HG2)
            | fail)
          have p1 : (pv : Int) ≤ 199 := by omega
          go_cut [11, 12, 49, 50] from 51 to 60 (fun pr hr _ _ wq => ∃ (p2 : Nat) (h2 : Int), a1 + 1 ≤ p2 ∧ p2 + 1 < b1 ∧ pr = .int .i64 (p2 : Int) ∧ hr = .int .i64 h2 ∧ (h2 = 0 ∨ h2 = 1) ∧ Hid (Gq w g n a b d a1 b1 wq))
          case first =>
            rcases hh3 with rfl | rfl | rfl
            · go_wp2_with (fail)
              go_meet
              case rel => exact ⟨pv, 0, hp1, hp2, rfl, rfl, .inl rfl, Lib.hid ⟨d2, HG3.out⟩⟩
            · go_wp2_with (fail)
              go_meet
              case rel => exact ⟨pv, 1, hp1, hp2, rfl, rfl, .inr rfl, Lib.hid ⟨d2, HG3.out⟩⟩
            · have HRV := Lib.hid (rev_any (c := c) a1 b1 HG3.out.arr HG3.out.sz (by omega) (by omega) (by omega))
              have HRP := Lib.hid (Go.Sort.reverseRange_holds d2 a1 b1 (by omega) (by rw [HG3.out.sz]; omega))
              go_wp2_with (first
                | (go_at_call 57; (with_reducible refine HRV.out.mono ?_); rintro e w7 ⟨rfl, ha7, ht7⟩; have HN := Lib.hid (show Gq w g n a b d a1 b1 w7 from ⟨_, HG3.out.perm (by omega) HRP.out ha7 ht7⟩); clear ha7 ht7)
                | fail)
              go_meet
              case rel => exact ⟨b1 - 1 - (pv - a1), 1, by omega, by omega, by congr 1; omega, rfl, .inr rfl, HN⟩
          case rest =>
            obtain ⟨p2, h2, hp3, hp4, rfl, rfl, hh2, HQ3⟩ := hcut
            clear HG3 hp1 hp2 hh3 p1
            have p3 : (p2 : Int) ≤ 199 := by omega
            go_upto_region 15 with (fail)
            go_cut [8, 9, 12, 68] from 61 to 67 (fun br pr hr tr wq => ∃ (t : Bool) (h3 : Int), br = .bool wb ∧ pr = .bool wp ∧ hr = .int .i64 h3 ∧ tr = .bool t ∧ Hid (Gq w g n a b d a1 b1 wq))
            case first =>
              rcases hh2 with rfl | rfl <;> cases wb <;> cases wp
              all_goals
                go_wp2_with (fail)
                go_meet
                case rel => exact ⟨_, _, rfl, rfl, rfl, rfl, HQ3⟩
            case rest =>
              obtain ⟨t, h3, rfl, rfl, rfl, rfl, HQ4⟩ := hcut
              clear HQ3 hh2
              obtain ⟨d3, hg3⟩ := HQ4.out
              have HG4 := Lib.hid hg3
              clear hg3 HQ4
              go_upto_if 68 with (fail)
              go_cut [68] from 69 to 72 (fun _ wq => Hid (Gq w g n a b d a1 b1 wq))
              case first =>
                cases t with
                | false =>
                  go_wp2_with (fail)
                  go_meet
                  case rel => exact Lib.hid ⟨d3, HG4.out⟩
                | true =>
                  have HPI := Lib.hid (pins_any (c := c) a1 b1 HG4.out.arr HG4.out.sz (by omega) (by omega) (by omega))
                  have HPP := Lib.hid (Go.Sort.partialInsertionSort_holds (lt := ltN) swoN d3 a1 b1 (by omega) (by rw [HG4.out.sz]; omega) HG4.out.bel)
                  generalize partialInsertionSort ltN d3 a1 b1 = P at *
                  obtain ⟨d4, u⟩ := P
                  dsimp only at HPI HPP
                  cases u with
                  | true =>
                    go_wp2_with (first
                      | (go_at_call 58; (with_reducible refine HPI.out.mono ?_); rintro e w8 ⟨rfl, ha8, ht8⟩)
                      | fail)
                    (try simp only [Exit.inBlock, Exit.then])
                    refine bodyPost_ret (results_none rfl _ _ _) rfl ?_
                    exact HG4.out.done HPP.out.1 (by first | exact HPP.out.2 trivial | exact HPP.out.2 rfl) ha8 ht8
                  | false =>
                    go_wp2_with (first
                      | (go_at_call 58; (with_reducible refine HPI.out.mono ?_); rintro e w8 ⟨rfl, ha8, ht8⟩; have HN := Lib.hid (show Gq w g n a b d a1 b1 w8 from ⟨_, HG4.out.perm (by omega) HPP.out.1 ha8 ht8⟩); clear ha8 ht8)
                      | fail)
                    go_meet
                    case rel => exact HN
              case rest =>
                obtain ⟨d5, hg5⟩ := hcut.out
                clear hcut HG4
                have HG5 := Lib.hid hg5
                clear hg5
                go_upto_region 17 with (fail)
                go_cut [87] from 73 to 86 (fun tr wq => ∃ t : Bool, tr = .bool t ∧ Hid (Gd1 w g n a b d a1 b1 d5 wq) ∧ Hid (t = true → 0 < a1 ∧ ltN d5[a1 - 1]! d5[p2]! = false))
                case first =>
                  rcases Nat.eq_zero_or_pos a1 with h0 | h0
                  · subst h0
                    have q1 : decide ((0 : Int) < ((0 : Nat) : Int)) = false := by decide
                    go_quiet (fail)
                    go_wp2_with (fail)
                    go_meet
                    case rel => exact ⟨false, rfl, Lib.hid (HG5.out.drewN _), Lib.hid (fun h => by cases h)⟩
                  · obtain ⟨q, hqa⟩ : ∃ q, a1 = q + 1 := ⟨a1 - 1, by omega⟩
                    have hsz := HG5.out.sz
                    have c0 := HG5.out.arr.cell q (by omega)
                    have c1 := HG5.out.arr.cell p2 (by omega)
                    have q1 : decide ((0 : Int) < (a1 : Int)) = true := decide_eq_true (by omega)
                    have q2 : decide (0 < a1) = true := decide_eq_true h0
                    have q3 : (0 : Int) < (a1 : Int) := by omega
                    have q4 : (a1 : Int) - 1 = (q : Int) := by omega
                    have b3 : q < n := by omega
                    have b4 : (q : Int) < (n : Int) := by omega
                    have b5 : p2 < n := by omega
                    have b6 : (p2 : Int) < (n : Int) := by omega
                    have hq := fun W => qless d5[q]! d5[p2]! W
                    have q5 : a1 - 1 = q := by omega
                    have w1 : IntKind.i64.wrap ((a1 : Int) - 1) = (a1 : Int) - 1 := IntWalk.i64_in _ (by omega)
                    have HQ5 := Lib.hid q5
                    clear hsz q5 hqa
                    generalize hx : d5[q]! = x at *
                    generalize hy : d5[p2]! = y at *
                    cases hb : ltN x y with
                    | true =>
                      rw [hb] at hq
                      clear hb hx hy
                      go_quiet ((go_at_call 59; exact Calls.quiet_of_same (hq _)))
                      go_wp2_with (fail)
                      go_meet
                      case rel => exact ⟨false, rfl, Lib.hid (HG5.out.drewN _), Lib.hid (fun h => by cases h)⟩
                    | false =>
                      rw [hb] at hq
                      have HH0 := Lib.hid h0
                      have HBB := Lib.hid (show ltN d5[a1 - 1]! y = false by rw [HQ5.out, hx]; exact hb)
                      clear hb hx hy
                      go_quiet ((go_at_call 59; exact Calls.quiet_of_same (hq _)))
                      go_wp2_with (fail)
                      go_meet
                      case rel => exact ⟨true, rfl, Lib.hid (HG5.out.drewN _), Lib.hid (fun _ => ⟨HH0.out, HBB.out⟩)⟩
                case rest =>
                  obtain ⟨t, rfl, HG6, HT⟩ := hcut
                  clear HG5
                  cases t with
                  | true =>
                    obtain ⟨ha0, hnl⟩ := HT.out rfl
                    have HE := Lib.hid (eqlo_any (c := c) a1 b1 p2 HG6.out.arr HG6.out.sz (by omega) (by omega) (by omega) (by omega))
                    obtain ⟨PP, hPP⟩ : ∃ PP, partitionEqual ltN d5 a1 b1 p2 = PP := ⟨_, rfl⟩
                    have hr := Go.Sort.round_eq (lt := ltN) (mid := PP.1) (d4 := PP.2) swoN (Go.Sort.partitionEqual_holds ltN) ha0 (by omega : a1 ≤ p2) (by omega : p2 < b1) (by rw [HG6.out.sz]; omega) HG6.out.bel hnl hPP
                    rw [hPP] at HE
                    obtain ⟨r1, r2, r3, r4, r5⟩ := hr
                    have HN := Lib.hid (fun (w9 : World) (ha9 : Arr w9 g PP.2) (ht9 : Trn wc g w9) => show Gq w g n a b d PP.1 b1 w9 from ⟨PP.2, ha9, r3.trans HG6.out.sz, HG6.out.trn.trans ht9, r4, fun R h1 h2 => HG6.out.fin R (r5 R h1 h2).1 (r5 R h1 h2).2⟩)
                    clear hPP r3 r4 r5 hnl HT
                    generalize PP.1 = mid2 at *
                    generalize PP.2 = d7 at *
                    go_wp2_with (first
                      | (go_at_call 60; (with_reducible refine HE.out.mono ?_); rintro e w9 ⟨rfl, ha9, ht9⟩; have HN9 := Lib.hid (HN.out _ ha9 ht9); clear ha9 ht9)
                      | fail)
                    go_roundw
                    case rel => exact ⟨mid2, b1, l2, wb, wp, by omega, by omega, hb1, hl2, rfl, rfl, rfl, rfl, rfl, HN9⟩
                    case measure => simp [intOf]; omega
                  | false =>
                    have HE := Lib.hid (part_any (c := c) a1 b1 p2 HG6.out.arr HG6.out.sz (by omega) (by omega) (by omega) (by omega))
                    obtain ⟨PP, hPP⟩ : ∃ PP, partition ltN d5 a1 b1 p2 = PP := ⟨_, rfl⟩
                    have hr := Go.Sort.round_part (lt := ltN) (mid := PP.1) (ap := PP.2.1) (d4 := PP.2.2) swoN (Go.Sort.partition_holds ltN) (by omega : a1 ≤ p2) (by omega : p2 < b1) (by rw [HG6.out.sz]; omega) HG6.out.bel hPP
                    rw [hPP] at HE
                    obtain ⟨r1, r2, r3, r4, r5, r6, r7⟩ := hr
                    have HSZ := Lib.hid (r3.trans HG6.out.sz)
                    have HN := Lib.hid (fun (w9 : World) (ht9 : Trn wc g w9) => (HG6.out.trn.trans ht9 : Trn w g w9))
                    have HFN := Lib.hid HG6.out.fin
                    have HR4 := Lib.hid r4
                    have HR5 := Lib.hid r5
                    have HR6 := Lib.hid r6
                    have HR7 := Lib.hid r7
                    clear hPP r3 r4 r5 r6 r7 HT HG6
                    generalize PP.1 = mid2 at *
                    generalize PP.2.1 = ap at *
                    generalize PP.2.2 = d7 at *
                    have i5 : (mid2 : Int) < (b1 : Int) := by omega
                    have i6 : (a1 : Int) ≤ (mid2 : Int) := by omega
                    by_cases hlr : mid2 - a1 < b1 - mid2
                    · have s1 : decide ((mid2 : Int) - (a1 : Int) < (b1 : Int) - (mid2 : Int)) = true := decide_eq_true (by omega)
                      have s2 : (mid2 : Int) - (a1 : Int) < (b1 : Int) - (mid2 : Int) := by omega
                      go_wp2_with (first
                        | (go_at_call 61; (with_reducible refine HE.out.mono ?_); rintro e w9 ⟨rfl, ha9, ht9⟩
                           have HI := Lib.hid (IH.out (mid2 - a1) (by omega) w9 d7 a1 mid2 l2 (Nat.le_refl _) r1 (by omega) hl2 ha9 HSZ.out HR4.out)
                           have HT9 := Lib.hid (HN.out _ ht9)
                           clear ha9 ht9)
                        | (go_at_call 50; (with_reducible refine HI.out.mono ?_); rintro e w10 ⟨L, rfl, ha10, hp10, hs10, ht10⟩
                           have HX := Lib.hid (HR6.out L hp10 hs10)
                           have HG10 := Lib.hid (show Gq w g n a b d (mid2 + 1) b1 w10 from ⟨L, ha10, hp10.1.trans HSZ.out, HT9.out.trans ht10, HX.out.1, fun R h1 h2 => HFN.out R (HX.out.2 R h1 h2).1 (HX.out.2 R h1 h2).2⟩)
                           clear ha10 hp10 hs10 ht10 HX)
                        | fail)
                      go_roundw
                      case rel => exact ⟨mid2 + 1, b1, l2, _, ap, by omega, by omega, hb1, hl2, by go_num, rfl, rfl, rfl, rfl, HG10⟩
                      case measure => simp [intOf]; omega
                    · have s1 : decide ((mid2 : Int) - (a1 : Int) < (b1 : Int) - (mid2 : Int)) = false := decide_eq_false (by omega)
                      have s2 : ¬ (mid2 : Int) - (a1 : Int) < (b1 : Int) - (mid2 : Int) := by omega
                      go_wp2_with (first
                        | (go_at_call 61; (with_reducible refine HE.out.mono ?_); rintro e w9 ⟨rfl, ha9, ht9⟩
                           have hI := IH.out (b1 - (mid2 + 1)) (by omega) w9 d7 (mid2 + 1) b1 l2 (Nat.le_refl _) (by omega) (by omega) hl2 ha9 HSZ.out HR5.out
                           rw [show ((mid2 + 1 : Nat) : Int) = (mid2 : Int) + 1 by omega] at hI
                           have HI := Lib.hid hI
                           have HT9 := Lib.hid (HN.out _ ht9)
                           clear ha9 ht9 hI)
                        | (go_at_call 50; (with_reducible refine HI.out.mono ?_); rintro e w10 ⟨L, rfl, ha10, hp10, hs10, ht10⟩
                           have HX := Lib.hid (HR7.out L hp10 hs10)
                           have HG10 := Lib.hid (show Gq w g n a b d a1 mid2 w10 from ⟨L, ha10, hp10.1.trans HSZ.out, HT9.out.trans ht10, HX.out.1, fun R h1 h2 => HFN.out R (HX.out.2 R h1 h2).1 (HX.out.2 R h1 h2).2⟩)
                           clear ha10 hp10 hs10 ht10 HX)
                        | fail)
                      go_roundw
                      case rel => exact ⟨a1, mid2, l2, _, ap, ha1, r1, by omega, hl2, rfl, rfl, rfl, rfl, rfl, HG10⟩
                      case measure => simp [intOf]; omega
end Go.Proofs.YtjhakplaffgkpaaDoor.Qu

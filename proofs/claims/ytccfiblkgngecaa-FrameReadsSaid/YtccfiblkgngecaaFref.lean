/- The document's own numbers at the ends of sectors (keelsonref05). -/
import Derived.Test.YtccfiblkgngecaaFrmake
import Derived.Test.YtccfiblkgngecaaRefb
import Derived.Test.YtccfiblkgngecaaFjoin
import Derived.Test.YtccfiblkgngecaaRowkit
namespace Go.Proofs.Ytccfiblkgngecaa
open Go.RowKit

theorem ref_num8 (t : List UInt8) (ht : t.length = 8) : ((refSt t 0 false).num 8).1 = unle t := by
  unfold refSt
  simp only [Bool.false_eq_true, if_false, List.drop_zero]
  rw [show St.num ⟨t, false⟩ 8 = (unle t, ⟨[], false⟩) from st_num t 8 (by omega) (by omega) ht]
theorem rnum8_any (A : Option Addr) (c : Nat) (t : List UInt8) (w : World) (h : Rd w w.heap.size 1 A 8 c (u8s t)) :
    Calls Try.prog 33 #[.slice A 8 c] w fun e w' => e = .returned (.int .u64 ((unle t : Nat) : Int)) ∧ Below w.heap.size w w' := by
  have htl : t.length = 8 := by have := h.len; rwa [u8s_len] at this
  have hN := fun (w1 : World) (hR : RefR w1 w.heap.size A 8 c 0 false) (hr : Rd w1 w.heap.size 1 A 8 c (u8s t)) => rnum_any w.heap.size w.heap.size 8 c 0 false A t 8 w1 hR hr (Nat.le_refl _) (by omega) (by omega) (by omega) (by omega)
  obtain ⟨q, hq⟩ : ∃ q, q = (refSt t 0 false).num 8 := ⟨_, rfl⟩
  have hq1 := ref_num8 t htl
  rw [← hq] at hq1 hN
  obtain ⟨q1, q2⟩ := q
  dsimp only at hq1
  subst hq1
  have HN := Lib.hid hN
  have hb0 : Below w.heap.size w (w.alloc (.cells #[.slice A 8 c, .int .i64 0, .bool false] 56)) := (Below.refl _ _).alloc (Nat.le_refl _) _
  have hR0 : RefR (w.alloc (.cells #[.slice A 8 c, .int .i64 0, .bool false] 56)) w.heap.size A 8 c 0 false := heap_alloc_new w _
  have HB := Lib.hid hb0
  have HR := Lib.hid hR0
  have HRd := Lib.hid (h.below hb0)
  clear hN hb0 hR0 hq htl
  go_enter Try.func33, Try.ntmps33
  go_wp2_with (go_at_call 30; refine (HN.out _ HR.out HRd.out).mono ?_; rintro e w1 ⟨a', b', rfl, hR1, ha1, hs1, hg1⟩)
  go_ret
  exact ⟨rfl, HB.out.grown hg1 (by simp) (fun k e => by have := Option.some.inj e; omega)⟩

set_option maxHeartbeats 1000000 in
set_option maxRecDepth 8000 in
theorem rends_any (A : Option Addr) (n c : Nat) (l : List UInt8) (w : World) (h : Rd w w.heap.size 1 A n c (u8s l)) (hn : n ≤ 1000000) :
    Calls Try.prog 15 #[.slice A n c] w fun e w' => e = .returned (.tuple #[.int .u64 ((headsOf l : Nat) : Int), .int .u64 ((tailsOf l : Nat) : Int)]) ∧ Below w.heap.size w w' := by
  have hln : l.length = n := by have := h.len; rwa [u8s_len] at this
  by_cases hs : n < 64
  · have e1 : headsOf l = 0 := by unfold headsOf; rw [if_pos (by omega)]
    have e2 : tailsOf l = 0 := by unfold tailsOf; rw [if_pos (by omega)]
    rw [e1, e2]
    have hi : (n : Int) < 64 := by omega
    clear e1 e2 hln hn
    go_enter Try.func15, Try.ntmps15
    go_wp2
    go_ret2
    exact ⟨rfl, Below.refl _ _⟩
  · have e1 : headsOf l = unle (l.take 8).reverse := by unfold headsOf; rw [if_neg (by omega)]; rfl
    have e2 : tailsOf l = unle ((l.drop 56).take 8) := by unfold tailsOf; rw [if_neg (by omega)]; rfl
    rw [e1, e2]
    obtain ⟨b, o, rfl, hb, hc⟩ := h.2.2.2 (by omega)
    have hnc := h.1
    have hd : decide ((n : Int) < 64) = false := by simp; omega
    have h1 := h.pre (k := 8) (by omega)
    rw [← u8s_take] at h1
    have h2 := h.cut (k := 56) (m := 8) (by omega)
    rw [← u8s_drop, ← u8s_take, Option.map_some, addOff] at h2
    have hn64 : 64 ≤ n := by omega
    have H1 := Lib.hid h1
    have H2 := Lib.hid h2
    clear e1 e2 hln hn h1 h2 hs hc
    generalize l.take 8 = t1 at *
    generalize (l.drop 56).take 8 = t2 at *
    have hmx : Try.prog.follows .mixedOrders = true := by kernel_rfl
    go_enter Try.func15, Try.ntmps15
    go_wp2
    refine wp_grow [([0, 1, 4, 5], 2), ([], 3), ([], 6)] [7, 8] (by kernel_rfl) (by kernel_rfl) (fun d _ _ _ _ h => by cases d <;> exact h) fun wd hbd => ?_
    have hzd := hbd.size
    intro f hf
    simp only [pickI, Option.toList_some, List.cons_append, List.nil_append, List.getElem?_toArray, List.getElem?_cons_succ, List.getElem?_cons_zero]
    repeat (go_big_quiet_step (fail))
    refine wpQuiet_nil ?_
    clear hf f
    refine seg_op (by simp only [List.getElem?_toArray, List.getElem?_cons_succ, List.getElem?_cons_zero]; rfl) fun K hK => ?_
    go_simp
    refine (turned_any _ _ _ t1 _ ((H1.out.below hbd).more hzd) (by omega)).mono ?_
    rintro e w1 ⟨v1, rfl, hown1, hb1⟩
    obtain ⟨A1, c1, rfl⟩ := ownsRow_form hown1
    have hr1 := ownsRow_rd hown1
    refine hK.out _ _ (seg_keep (hbd.trans (hb1.mono hzd)) ?_)
    clear hK K
    have hb01 := hbd.trans (hb1.mono hzd)
    intro f hf
    refine wpQuiet_nil ?_
    clear hf f
    refine seg_op (by simp only [List.getElem?_toArray, List.getElem?_cons_succ, List.getElem?_cons_zero]; rfl) fun K hK => ?_
    go_simp
    refine (rnum8_any _ _ t1.reverse _ hr1).mono ?_
    rintro e w2 ⟨rfl, hb2⟩
    have hb02 := hb01.trans (hb2.mono hb01.size)
    refine hK.out _ _ (seg_keep hb02 ?_)
    clear hK K
    intro f hf
    refine wpQuiet_nil ?_
    clear hf f
    refine seg_op (by simp only [List.getElem?_toArray, List.getElem?_cons_succ, List.getElem?_cons_zero]; rfl) fun K hK => ?_
    go_simp
    refine (rnum8_any _ _ t2 _ ((H2.out.below hb02).more hb02.size)).mono ?_
    rintro e w3 ⟨rfl, hb3⟩
    have hb03 := hb02.trans (hb3.mono hb02.size)
    refine hK.out _ _ (seg_keep hb03 ?_)
    clear hK K
    intro f hf
    simp only [pickI, Option.toList_some, List.cons_append, List.nil_append, List.getElem?_toArray, List.getElem?_cons_succ, List.getElem?_cons_zero]
    repeat (go_big_quiet_step (fail))
    refine wpQuiet_nil ?_
    clear hf f
    go_wp2
    go_ret2
    exact ⟨rfl, hb03⟩

/-- The greatest number at the ends of the sectors. -/
def mostOf (l : List UInt8) : Nat → Nat
  | 0 => 0
  | k + 1 => max (mostOf l k) (max (headsOf (sect l k)) (tailsOf (sect l k)))
theorem heads_take (l : List UInt8) (h : 64 ≤ l.length) : headsOf (l.take 64) = headsOf l ∧ tailsOf (l.take 64) = tailsOf l := by
  unfold headsOf tailsOf headOf tailOf
  rw [List.length_take, if_neg (by omega), if_neg (by omega), if_neg (by omega), if_neg (by omega), List.take_take, List.drop_take, List.take_take]
  exact ⟨rfl, rfl⟩
theorem mostOf_lt (l : List UInt8) (k : Nat) : mostOf l k < 18446744073709551616 := by
  induction k with
  | zero => exact (show (0 : Nat) < 18446744073709551616 by omega)
  | succ k ih =>
    have h1 := headsOf_lt (sect l k)
    have h2 := tailsOf_lt (sect l k)
    rw [mostOf]
    omega
set_option maxHeartbeats 1000000 in
set_option maxRecDepth 8000 in
theorem rmost_any (A : Option Addr) (n c : Nat) (l : List UInt8) (w : World) (h : Rd w w.heap.size 1 A n c (u8s l)) (hn : n ≤ 1000000) :
    Calls Try.prog 17 #[.slice A n c] w fun e w' => e = .returned (.int .u64 ((mostOf l (n / 64) : Nat) : Int)) ∧ Below w.heap.size w w' := by
  have hln : l.length = n := by have := h.len; rwa [u8s_len] at this
  have HLN := Lib.hid hln
  clear hln
  have hnc := h.1
  have hni : (n : Int) ≤ 1000000 := by omega
  go_enter Try.func17, Try.ntmps17
  go_wp2
  go_loopw [3, 4] (fun mr ir wr => ∃ i q : Nat, i ≤ n / 64 ∧ Hid (q = mostOf l i) ∧ ir = .int .i64 ((64 * i : Nat) : Int) ∧ mr = .int .u64 (q : Int) ∧ Below w.heap.size w wr) (fun _ ir _ => n / 64 - (intOf ir).toNat / 64)
  case atStart => exact ⟨0, 0, Nat.zero_le _, Lib.hid rfl, rfl, rfl, Below.refl _ _⟩
  case round =>
    obtain ⟨i, q, hi, hq, rfl, rfl, hb⟩ := hrel
    obtain ⟨j, hj⟩ : ∃ j, j = 64 * i := ⟨_, rfl⟩
    rw [← hj]
    by_cases hlt : i < n / 64
    · obtain ⟨b, o, rfl, hbl, hcell⟩ := h.2.2.2 (by omega)
      have hz := hb.size
      have hd : decide ((j : Int) + 64 ≤ (n : Int)) = true := by simp; omega
      have hjn : (j : Int) ≤ (n : Int) := by omega
      have hjc : (j : Int) ≤ (c : Int) := by omega
      have hne : j ≠ c := by omega
      have hcut := (h.below hb).cut (k := j) (m := n - j) (by omega)
      rw [← u8s_drop, ← u8s_take, Option.map_some, addOff, List.take_of_length_le (by rw [List.length_drop, HLN.out]; exact Nat.le_refl _)] at hcut
      have hE := rends_any _ _ _ _ wr (hcut.more hz) (by omega)
      have hh := heads_take (l.drop j) (by rw [List.length_drop, HLN.out]; omega)
      have hh1 : headsOf (sect l i) = headsOf (l.drop j) ∧ tailsOf (sect l i) = tailsOf (l.drop j) := by unfold sect; rw [← hj]; exact hh
      have hm : mostOf l (i + 1) = max q (max (headsOf (l.drop j)) (tailsOf (l.drop j))) := by rw [mostOf, hh1.1, hh1.2, hq.out]
      generalize headsOf (l.drop j) = a at *
      generalize tailsOf (l.drop j) = t at *
      obtain ⟨q2, hq2⟩ : ∃ q2, q2 = max q (max a t) := ⟨_, rfl⟩
      have e1 : (if (if (a : Int) < (t : Int) then (t : Int) else (a : Int)) < (q : Int) then (q : Int) else (if (a : Int) < (t : Int) then (t : Int) else (a : Int))) = (q2 : Int) := by split <;> split <;> omega
      have e2 : (max (q : Int) (max (a : Int) (t : Int))) = (q2 : Int) := by omega
      have e3 : (if (q : Int) < (if (a : Int) < (t : Int) then (t : Int) else (a : Int)) then (if (a : Int) < (t : Int) then (t : Int) else (a : Int)) else (q : Int)) = (q2 : Int) := by split <;> split <;> omega
      have HE := Lib.hid hE
      have HM := Lib.hid (hm.trans hq2.symm)
      have HJ := Lib.hid hj
      clear hE hm hq2 hh hh1 hj hcut hcell
      go_wp2_with (go_at_call 15; refine HE.out.mono ?_; rintro e w1 ⟨rfl, hb1⟩)
      go_roundw
      case rel =>
        refine ⟨i + 1, q2, by omega, Lib.hid HM.out.symm, by have := HJ.out; go_num, ?_, hb.trans (hb1.mono hz)⟩
        first | rfl | (rw [← e2]; rfl) | (rw [← e1]; rfl) | (rw [← e3]; rfl)
      case measure => simp [intOf]; have := HJ.out; omega
    · have hd : decide ((j : Int) + 64 ≤ (n : Int)) = false := by simp; omega
      have hji : (j : Int) ≤ 1000000 := by omega
      obtain rfl : i = n / 64 := by omega
      have HJ := Lib.hid hj
      have HQ := Lib.hid hq.out
      clear hj hi
      go_wp2
      go_ret
      rw [← HQ.out]
      exact ⟨rfl, hb⟩

end Go.Proofs.Ytccfiblkgngecaa

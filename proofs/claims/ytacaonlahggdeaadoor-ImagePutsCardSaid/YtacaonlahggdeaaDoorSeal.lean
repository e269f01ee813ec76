/- Contracts of crc's Seal and Open. -/
import Derived.Test.YtacaonlahggdeaaDoorCrc
namespace Go.Proofs.YtacaonlahggdeaaDoor
open Go.RowKit

def sealOf (l : List UInt8) : List UInt8 := l ++ le 4 (more 0 l)
theorem sum_lt (l : List UInt8) : more 0 l < 4294967296 := more_lt 0 l (by decide)

theorem seal_any (A : Option Addr) (n c : Nat) (l : List UInt8) (w : World) (h : Rd w w.heap.size 1 A n c (u8s l)) (hn : n ≤ 500000) :
    Calls Tryd.prog 21 #[.slice A n c] w fun e w' => ∃ v, e = .returned v ∧ w'.ownsRow w.heap.size 5 1 v (n + 4) (u8s (sealOf l)) ∧ Below w.heap.size w w' := by
  have hM := sum_lt l
  have hS := sum_any A n c l w h (by omega)
  have hfin : l ++ puts 4 [more 0 l] = sealOf l := by simp [sealOf, puts]
  generalize more 0 l = M at hM hS hfin
  have HS := Lib.hid hS
  have HF := Lib.hid hfin
  clear hS hfin
  have hM1 : (M : Int) ≤ 4294967295 := by omega
  go_enter Tryd.func21, Tryd.ntmps21
  go_wp2_with (first
    | (go_at_call 47; refine (HS.out).mono ?_; rintro e w1 ⟨rfl, hb1⟩; have hz1 := hb1.size; have hr1 := (h.below hb1).more hz1)
    | (go_at_call 20; refine (put_good _ _ _ _ 1 1 l [M] 4 _ (((hr1.below ((Below.refl _ _).alloc (Nat.le_refl _) _))).more (by simp)) (Rd.lit w1 #[.int .u64 (M : Int)] _ rfl (by unfold maxLen; omega) (by simp)) (by omega) (by omega) (by omega)).mono ?_; rintro e w2 ⟨v2, rfl, hown2, hb2⟩))
  go_ret
  refine ⟨_, rfl, ?_, ?_⟩
  · rw [HF.out] at hown2
    exact ownsRow_low hown2 (by simp; omega)
  · exact hb1.trans (((Below.refl _ _).alloc hz1 _).trans (hb2.mono (by simp; omega)))

def Tells (w : World) (t : List UInt8) (E : Int) (e : Ending) (w' : World) : Prop :=
  ∃ A n c, e = .returned (.tuple #[.slice A n c, .int .i64 E]) ∧ n = t.length ∧ Rd w' w'.heap.size 1 A n c (u8s t) ∧ Below w.heap.size w w'
def openOf (l : List UInt8) : List UInt8 × Int :=
  if l.length < 4 then ([], 10) else if unle (l.drop (l.length - 4)) = more 0 (l.take (l.length - 4)) then (l.take (l.length - 4), 0) else ([], 12)

theorem st_num4 (t : List UInt8) (ht : t.length = 4) : St.num ⟨t, false⟩ 4 = (unle t, ⟨[], false⟩) := by
  have e1 : t.take 4 = t := List.take_of_length_le (by omega)
  have e2 : t.drop 4 = [] := List.drop_of_length_le (by omega)
  unfold St.num St.next
  rw [if_pos ⟨by omega, by omega⟩]
  dsimp only
  rw [if_pos ⟨by omega, by rw [ht]; omega⟩, show (4 : Int).toNat = 4 from rfl, e1, e2]
theorem open_short (A : Option Addr) (n c : Nat) (w : World) (hn : n < 4) :
    Calls Tryd.prog 31 #[.slice A n c] w (Tells w [] 10) := by
  go_enter Tryd.func31, Tryd.ntmps31
  go_wp2
  go_ret2
  exact ⟨_, _, _, rfl, rfl, Rd.nil_, Below.refl _ _⟩

theorem open_long (A : Option Addr) (n c : Nat) (l : List UInt8) (w : World) (h : Rd w w.heap.size 1 A n c (u8s l)) (hn : n ≤ 500000) (h4 : 4 ≤ n) :
    Calls Tryd.prog 31 #[.slice A n c] w (Tells w (openOf l).1 (openOf l).2) := by
  have hln : l.length = n := by have := h.len; rwa [u8s_len] at this
  have hopen : openOf l = if unle (l.drop (n - 4)) = more 0 (l.take (n - 4)) then (l.take (n - 4), 0) else ([], 12) := by
    unfold openOf
    rw [hln, if_neg (by omega)]
  have hnext : St.next ⟨l, false⟩ ((n : Int) - 4) = (l.take (n - 4), ⟨l.drop (n - 4), false⟩) := by
    unfold St.next
    rw [if_pos ⟨by omega, by rw [hln]; omega⟩]
    rw [show ((n : Int) - 4).toNat = n - 4 from by omega]
  have hnum : St.num ⟨l.drop (n - 4), false⟩ 4 = (unle (l.drop (n - 4)), ⟨[], false⟩) := st_num4 _ (by rw [List.length_drop, hln]; omega)
  have hU : unle (l.drop (n - 4)) < 4294967296 := by
    have := unle_lt (l.drop (n - 4))
    rw [List.length_drop, hln, show n - (n - 4) = 4 from by omega] at this
    exact this
  have hM := sum_lt (l.take (n - 4))
  have htl : (l.take (n - 4)).length = n - 4 := by rw [List.length_take]; omega
  have HO := Lib.hid hopen
  have HX := Lib.hid hnext
  have HY := Lib.hid hnum
  have HT := Lib.hid htl
  clear hopen hnext hnum hln htl
  generalize unle (l.drop (n - 4)) = U at *
  generalize hMM : more 0 (l.take (n - 4)) = M at *
  have HM := Lib.hid hMM
  clear hMM
  have hM1 : (M : Int) ≤ 4294967295 := by omega
  by_cases hUM : U = M
  · subst hUM
    have q1 : ((U : Int) != (U : Int)) = false := bne_self_eq_false _
    go_enter Tryd.func31, Tryd.ntmps31
    go_wp2_with (first
      | (go_at_call 32; refine (read_any _ _ _ l _ h (by omega)).mono ?_; rintro e w1 ⟨g, rfl, hg, hR, hb1⟩; have hz1 := hb1.size)
      | (go_at_call 53; refine (take_any _ _ _ _ hR).mono ?_; rw [HX.out]; rintro e w2 ⟨v2, rfl, hown2, hR2, hg2⟩
         rw [HT.out] at hown2
         have hb2 : Below w.heap.size w w2 := hb1.grown hg2 hz1 (fun k e => by cases e; exact hg)
         obtain ⟨A2, c2, rfl⟩ := ownsRow_form hown2)
      | (go_at_call 34; refine (num_all _ _ _ _ hR2).mono ?_; rw [HY.out]; rintro e w3 ⟨rfl, hR3, hg3⟩
         have hb3 : Below w.heap.size w w3 := hb2.grown hg3 hb2.size (fun k e => by cases e; exact hg)
         have hr3 : Rd w3 w3.heap.size 1 A2 (n - 4) c2 (u8s (l.take (n - 4))) := ownsRow_far hown2 hg3 (fun k e => by have h1 := (hown2.lt k e).1; have h2 := hR.lt; omega)
         have hz3 := hb3.size)
      | (go_at_call 47; refine (sum_any _ _ _ _ _ hr3 (by omega)).mono ?_; rw [HM.out]; rintro e w4 ⟨rfl, hb4⟩)
      | fail)
    go_ret2
    rw [HO.out, if_pos (by trivial)]
    exact ⟨_, _, _, rfl, HT.out.symm, (hr3.below hb4).more hb4.size, hb3.trans (hb4.mono hz3)⟩
  · have q1 : ((U : Int) != (M : Int)) = true := by simp; omega
    go_enter Tryd.func31, Tryd.ntmps31
    go_wp2_with (first
      | (go_at_call 32; refine (read_any _ _ _ l _ h (by omega)).mono ?_; rintro e w1 ⟨g, rfl, hg, hR, hb1⟩; have hz1 := hb1.size)
      | (go_at_call 53; refine (take_any _ _ _ _ hR).mono ?_; rw [HX.out]; rintro e w2 ⟨v2, rfl, hown2, hR2, hg2⟩
         rw [HT.out] at hown2
         have hb2 : Below w.heap.size w w2 := hb1.grown hg2 hz1 (fun k e => by cases e; exact hg)
         obtain ⟨A2, c2, rfl⟩ := ownsRow_form hown2)
      | (go_at_call 34; refine (num_all _ _ _ _ hR2).mono ?_; rw [HY.out]; rintro e w3 ⟨rfl, hR3, hg3⟩
         have hb3 : Below w.heap.size w w3 := hb2.grown hg3 hb2.size (fun k e => by cases e; exact hg)
         have hr3 : Rd w3 w3.heap.size 1 A2 (n - 4) c2 (u8s (l.take (n - 4))) := ownsRow_far hown2 hg3 (fun k e => by have h1 := (hown2.lt k e).1; have h2 := hR.lt; omega)
         have hz3 := hb3.size)
      | (go_at_call 47; refine (sum_any _ _ _ _ _ hr3 (by omega)).mono ?_; rw [HM.out]; rintro e w4 ⟨rfl, hb4⟩)
      | fail)
    go_ret2
    rw [HO.out, if_neg hUM]
    exact ⟨_, _, _, rfl, rfl, Rd.nil_, hb3.trans (hb4.mono hz3)⟩

theorem open_any (A : Option Addr) (n c : Nat) (l : List UInt8) (w : World) (h : Rd w w.heap.size 1 A n c (u8s l)) (hn : n ≤ 500000) :
    Calls Tryd.prog 31 #[.slice A n c] w (Tells w (openOf l).1 (openOf l).2) := by
  by_cases h4 : n < 4
  · have hln : l.length = n := by have := h.len; rwa [u8s_len] at this
    have e : openOf l = ([], 10) := by unfold openOf; rw [if_pos (by omega)]
    rw [e]
    exact open_short A n c w h4
  · exact open_long A n c l w h hn (by omega)

end Go.Proofs.YtacaonlahggdeaaDoor

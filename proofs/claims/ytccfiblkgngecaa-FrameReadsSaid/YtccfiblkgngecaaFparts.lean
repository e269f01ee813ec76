/- Parts of package frame. -/
import Derived.Test.YtccfiblkgngecaaFrev
import Derived.Test.YtccfiblkgngecaaRefs
namespace Go.Proofs.Ytccfiblkgngecaa
open Go.RowKit

def headOf (l : List UInt8) : Nat := unle (l.take 8).reverse
def tailOf (l : List UInt8) : Nat := unle ((l.drop 56).take 8)
def headsOf (l : List UInt8) : Nat := if l.length < 64 then 0 else headOf l
def tailsOf (l : List UInt8) : Nat := if l.length < 64 then 0 else tailOf l
theorem headsOf_lt (l : List UInt8) : headsOf l < 18446744073709551616 := by
  unfold headsOf headOf
  split
  · decide
  · exact unle_le8 _ (by rw [List.length_reverse, List.length_take]; omega)
theorem tailsOf_lt (l : List UInt8) : tailsOf l < 18446744073709551616 := by
  unfold tailsOf tailOf
  split
  · decide
  · exact unle_le8 _ (by rw [List.length_take]; omega)
theorem st_num (t : List UInt8) (k : Nat) (hk : 1 ≤ k) (hk8 : k ≤ 8) (ht : t.length = k) : St.num ⟨t, false⟩ (k : Int) = (unle t, ⟨[], false⟩) := by
  have e1 : t.take k = t := List.take_of_length_le (by omega)
  have e2 : t.drop k = [] := List.drop_of_length_le (by omega)
  unfold St.num St.next
  rw [if_pos (by omega), if_pos (by dsimp only; omega)]
  simp only [Int.toNat_natCast, e1, e2]
theorem rev_unle (t : List UInt8) (ht : t.length = 8) : rev8 (unle t) = unle t.reverse := by
  unfold rev8
  have := le_unle t
  rw [ht] at this
  rw [this]

set_option maxHeartbeats 1000000 in
set_option maxRecDepth 8000 in
theorem ends_any (A : Option Addr) (n c : Nat) (l : List UInt8) (w : World) (h : Rd w w.heap.size 1 A n c (u8s l)) (hn : n ≤ 1000000) :
    Calls Try.prog 14 #[.slice A n c] w fun e w' => e = .returned (.tuple #[.int .u64 ((headsOf l : Nat) : Int), .int .u64 ((tailsOf l : Nat) : Int)]) ∧ Below w.heap.size w w' := by
  have hln : l.length = n := by have := h.len; rwa [u8s_len] at this
  by_cases hs : n < 64
  · have e1 : headsOf l = 0 := by unfold headsOf; rw [if_pos (by omega)]
    have e2 : tailsOf l = 0 := by unfold tailsOf; rw [if_pos (by omega)]
    rw [e1, e2]
    have hi : (n : Int) < 64 := by omega
    clear e1 e2 hln hn
    go_enter Try.func14, Try.ntmps14
    go_wp2
    go_ret2
    exact ⟨rfl, Below.refl _ _⟩
  · have e1 : headsOf l = rev8 (unle (l.take 8)) := by
      unfold headsOf
      rw [if_neg (by omega), rev_unle _ (by rw [List.length_take]; omega)]
      rfl
    have e2 : tailsOf l = unle ((l.drop 56).take 8) := by unfold tailsOf; rw [if_neg (by omega)]; rfl
    rw [e1, e2]
    obtain ⟨b, o, rfl, hb, hc⟩ := h.2.2.2 (by omega)
    have hnc := h.1
    have hd : decide ((n : Int) < 64) = false := by simp; omega
    have h1 := h.pre (k := 8) (by omega)
    rw [← u8s_take] at h1
    have h2 := h.cut (k := 56) (m := 8) (by omega)
    rw [← u8s_drop, ← u8s_take, Option.map_some, addOff] at h2
    have hn64 : 64 ≤ n := by omega
    have n1 := fun (g : Nat) (w : World) (hR : Rdr w g ⟨l.take 8, false⟩) => num_all g ⟨l.take 8, false⟩ 8 w hR
    rw [show St.num ⟨l.take 8, false⟩ 8 = (unle (l.take 8), ⟨[], false⟩) from st_num _ 8 (by omega) (by omega) (by rw [List.length_take]; omega)] at n1
    have n2 := fun (g : Nat) (w : World) (hR : Rdr w g ⟨(l.drop 56).take 8, false⟩) => num_all g ⟨(l.drop 56).take 8, false⟩ 8 w hR
    rw [show St.num ⟨(l.drop 56).take 8, false⟩ 8 = (unle ((l.drop 56).take 8), ⟨[], false⟩) from st_num _ 8 (by omega) (by omega) (by rw [List.length_take, List.length_drop]; omega)] at n2
    have hx : unle (l.take 8) < 18446744073709551616 := unle_le8 _ (by rw [List.length_take]; omega)
    have N1 := Lib.hid n1
    have N2 := Lib.hid n2
    have HX := Lib.hid hx
    have H1 := Lib.hid h1
    have H2 := Lib.hid h2
    clear e1 e2 hln hn n1 n2 hx h1 h2 hs hc
    generalize l.take 8 = t1 at *
    generalize (l.drop 56).take 8 = t2 at *
    go_enter Try.func14, Try.ntmps14
    go_wp2_with (first
      | (go_at_call 20; first
          | (with_reducible refine (read_any _ _ _ t1 _ H1.out (by omega)).mono ?_; rintro e w1 ⟨g1, rfl, hg1, hR1, hb1⟩)
          | (refine (read_any _ _ _ t2 _ ((H2.out.below hb2).more hb2.size) (by omega)).mono ?_; rintro e w3 ⟨g3, rfl, hg3, hR3, hb3⟩))
      | (go_at_call 32; first
          | (with_reducible refine (N1.out _ _ hR1).mono ?_; rintro e w2 ⟨rfl, hR2, hgr2⟩
             have hb2 := hb1.grown hgr2 hb1.size (fun k e => by obtain rfl : g1 = k := Option.some.inj e; exact hg1))
          | (refine (N2.out _ _ hR3).mono ?_; rintro e w4 ⟨rfl, hR4, hgr4⟩))
      | (go_at_call 19; refine (rev_any _ _ HX.out).mono ?_; rintro e w5 ⟨rfl, rfl⟩)
      | fail)
    go_ret2
    refine ⟨rfl, (hb2.trans (hb3.mono hb2.size)).grown hgr4 (Nat.le_trans hb2.size hb3.size) (fun k e => by obtain rfl : g3 = k := Option.some.inj e; exact Nat.le_trans hb2.size hg3)⟩

theorem piece_any (A : Option Addr) (n c : Nat) (l : List UInt8) (B : Nat) (w : World) (h : Rd w B 1 A n c (u8s l)) (hn : 64 ≤ n) (hn2 : n ≤ 1000000) :
    Calls Try.prog 42 #[.slice A n c] w fun e w' => ∃ b o, e = .returned (.slice (some ⟨b, o, none⟩) 48 (c - 8)) ∧ Rd w B 1 (some ⟨b, o, none⟩) 48 (c - 8) (u8s ((l.drop 8).take 48)) ∧ w = w' := by
  obtain ⟨b, o, rfl, hb, hc⟩ := h.2.2.2 (by omega)
  have hnc := h.1
  have h2 := h.cut (k := 8) (m := 48) (by omega)
  rw [← u8s_drop, ← u8s_take, Option.map_some, addOff] at h2
  have H2 := Lib.hid h2
  clear h2 hc h
  go_enter Try.func42, Try.ntmps42
  go_wp2
  go_ret
  exact ⟨b, o + 8, rfl, H2.out, rfl⟩

def wrongOf (l : List UInt8) (m : Nat) : Int := if headsOf l ≠ tailsOf l ∨ headsOf l ≠ m then 13 else if m = 0 then 40 else 0
set_option maxRecDepth 8000 in
theorem wrong_any (A : Option Addr) (n c : Nat) (l : List UInt8) (m : Nat) (w : World) (h : Rd w w.heap.size 1 A n c (u8s l)) (hn : n ≤ 1000000) :
    Calls Try.prog 41 #[.slice A n c, .int .u64 (m : Int)] w fun e w' => e = .returned (.int .i64 (wrongOf l m)) ∧ Below w.heap.size w w' := by
  have hE := ends_any A n c l w h hn
  unfold wrongOf
  generalize headsOf l = hd at *
  generalize tailsOf l = tl at *
  have HE := Lib.hid hE
  clear hE h hn
  by_cases h1 : hd = tl
  · subst h1
    have q1 : (((hd : Int)) != ((hd : Int))) = false := bne_self_eq_false _
    by_cases h2 : hd = m
    · subst h2
      by_cases h3 : hd = 0
      · subst h3
        rw [if_neg (by simp), if_pos rfl]
        go_enter Try.func41, Try.ntmps41
        go_wp2_with (go_at_call 14; refine HE.out.mono ?_; rintro e w1 ⟨rfl, hb⟩)
        go_ret
        exact ⟨rfl, hb⟩
      · rw [if_neg (by simp), if_neg h3]
        have q3 : (((hd : Int)) == 0) = false := by simp; omega
        clear h3
        go_enter Try.func41, Try.ntmps41
        go_wp2_with (go_at_call 14; refine HE.out.mono ?_; rintro e w1 ⟨rfl, hb⟩)
        go_ret
        exact ⟨rfl, hb⟩
    · rw [if_pos (.inr h2)]
      have q2 : (((hd : Int)) != ((m : Int))) = true := by simp; omega
      clear h2
      go_enter Try.func41, Try.ntmps41
      go_wp2_with (go_at_call 14; refine HE.out.mono ?_; rintro e w1 ⟨rfl, hb⟩)
      go_ret
      exact ⟨rfl, hb⟩
  · rw [if_pos (.inl h1)]
    have q2 : (((hd : Int)) != ((tl : Int))) = true := by simp; omega
    clear h1
    go_enter Try.func41, Try.ntmps41
    go_wp2_with (go_at_call 14; refine HE.out.mono ?_; rintro e w1 ⟨rfl, hb⟩)
    go_ret
    exact ⟨rfl, hb⟩

def sectorsOf (n : Int) : Nat := if n < 0 ∨ 65536 < n then 0 else (n.toNat + 55) / 48
theorem sealedLen_any (n : Int) (w : World) (h0 : 0 ≤ n) (hn : n ≤ 1000000) : Calls Try.prog 26 #[.int .i64 n] w fun e w' => e = .returned (.int .i64 (4 + n + 4)) ∧ w = w' := by
  go_enter Try.func26, Try.ntmps26
  go_wp2
  go_ret
  exact ⟨rfl, rfl⟩
end Go.Proofs.Ytccfiblkgngecaa

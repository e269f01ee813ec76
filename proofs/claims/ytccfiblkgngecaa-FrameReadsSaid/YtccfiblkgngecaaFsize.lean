/- frame.size. -/
import Derived.Test.YtccfiblkgngecaaFread
namespace Go.Proofs.Ytccfiblkgngecaa
open Go.RowKit

def sizeNum (l : List UInt8) : Nat := unle (((l.drop 8).take 48).take 4)
def sizeOf (l : List UInt8) : Nat × Int :=
  if l.length < 64 then (0, 10) else if wrongOf l (headsOf l) ≠ 0 then (0, wrongOf l (headsOf l)) else if 65536 < sizeNum l then (0, 11) else (sizeNum l, 0)
theorem st_num4' (t : List UInt8) (ht : 4 ≤ t.length) : (St.num ⟨t, false⟩ 4).1 = unle (t.take 4) := by
  unfold St.num St.next
  rw [if_pos (by omega), if_pos (by dsimp only; omega)]
  rfl
theorem sizeNum_lt (l : List UInt8) : sizeNum l < 4294967296 := Nat.lt_of_lt_of_le (unle_lt _) (Nat.pow_le_pow_right (by decide) (by rw [List.length_take]; omega) : _ ≤ 256 ^ 4)

set_option maxHeartbeats 2000000 in
set_option maxRecDepth 8000 in
theorem size_any' (A : Option Addr) (n c : Nat) (l : List UInt8) (w : World) (h : Rd w w.heap.size 1 A n c (u8s l)) (hn : n ≤ 1000000) :
    Calls Try.prog 27 #[.slice A n c] w fun e w' => e = .returned (.tuple #[.int .i64 (((sizeOf l).1 : Nat) : Int), .int .i64 (sizeOf l).2]) ∧ Below w.heap.size w w' := by
  have hln : l.length = n := by have := h.len; rwa [u8s_len] at this
  by_cases hs : n < 64
  · have e : sizeOf l = (0, 10) := by unfold sizeOf; rw [if_pos (by omega)]
    rw [e]
    have hi : (n : Int) < 64 := by omega
    clear e hln hn
    go_enter Try.func27, Try.ntmps27
    go_wp2
    go_ret2
    exact ⟨rfl, Below.refl _ _⟩
  · have hd : decide ((n : Int) < 64) = false := by simp; omega
    have e : sizeOf l = if wrongOf l (headsOf l) ≠ 0 then (0, wrongOf l (headsOf l)) else if 65536 < sizeNum l then (0, 11) else (sizeNum l, 0) := by unfold sizeOf; rw [if_neg (by omega)]
    rw [e]
    clear e
    have hE := ends_any A n c l w h hn
    have hW := fun (w1 : World) (hb : Below w.heap.size w w1) => wrong_any A n c l (headsOf l) w1 ((h.below hb).more hb.size) hn
    generalize headsOf l = hd1 at *
    generalize tailsOf l = tl1 at *
    generalize wrongOf l hd1 = E at *
    have HE := Lib.hid hE
    have HW := Lib.hid hW
    have HN := Lib.hid hn
    have HLN := Lib.hid hln
    by_cases hE0 : E = 0
    · subst hE0
      have hP := fun (w1 : World) (hb : Below w.heap.size w w1) => piece_any A n c l w.heap.size w1 (h.below hb) (by omega) hn
      have HP := Lib.hid hP
      have hT := fun (g : Nat) (w1 : World) (hR : Rdr w1 g ⟨(l.drop 8).take 48, false⟩) => num_all g ⟨(l.drop 8).take 48, false⟩ 4 w1 hR
      rw [st_num4' _ (by rw [List.length_take, List.length_drop]; omega)] at hT
      have hlt := sizeNum_lt l
      have hpl : ((l.drop 8).take 48).length = 48 := by rw [List.length_take, List.length_drop]; omega
      unfold sizeNum at *
      generalize (l.drop 8).take 48 = pc at *
      obtain ⟨x, hx⟩ : ∃ x, x = unle (pc.take 4) := ⟨_, rfl⟩
      rw [← hx] at hT hlt ⊢
      have HT := Lib.hid hT
      have HLT := Lib.hid hlt
      have HPL := Lib.hid hpl
      clear hx hT hP hlt hpl hE hW hn hln hs
      rw [if_neg (by decide)]
      by_cases hbig : 65536 < x
      · rw [if_pos hbig]
        have d1 : decide ((65536 : Int) < (x : Int)) = true := by simp; omega
        clear hbig
        go_enter Try.func27, Try.ntmps27
        go_wp2_with (first
          | (go_at_call 14; refine HE.out.mono ?_; rintro e w1 ⟨rfl, hb1⟩)
          | (go_at_call 41; refine (HW.out _ hb1).mono ?_; rintro e w2 ⟨rfl, hb2⟩; have hb02 := hb1.trans (hb2.mono hb1.size))
          | (go_at_call 42; refine (HP.out _ hb02).mono ?_; rintro e w3 ⟨b3, o3, rfl, hr3, rfl⟩)
          | (go_at_call 20; refine (read_any _ _ _ _ _ (hr3.more hb02.size) (by omega)).mono ?_; rintro e w4 ⟨g, rfl, hg, hR, hb4⟩)
          | (go_at_call 32; refine (HT.out _ _ hR).mono ?_; rintro e w5 ⟨rfl, hR5, hg5⟩)
          | fail)
        go_ret2
        have h4 := hb02.trans (hb4.mono hb02.size)
        exact ⟨rfl, h4.grown hg5 h4.size (fun k e => by obtain rfl : g = k := Option.some.inj e; exact Nat.le_trans hb02.size hg)⟩
      · rw [if_neg hbig]
        have d1 : decide ((65536 : Int) < (x : Int)) = false := by simp; omega
        have hx63 : (x : Int) < 70000 := by omega
        clear hbig
        go_enter Try.func27, Try.ntmps27
        go_wp2_with (first
          | (go_at_call 14; refine HE.out.mono ?_; rintro e w1 ⟨rfl, hb1⟩)
          | (go_at_call 41; refine (HW.out _ hb1).mono ?_; rintro e w2 ⟨rfl, hb2⟩; have hb02 := hb1.trans (hb2.mono hb1.size))
          | (go_at_call 42; refine (HP.out _ hb02).mono ?_; rintro e w3 ⟨b3, o3, rfl, hr3, rfl⟩)
          | (go_at_call 20; refine (read_any _ _ _ _ _ (hr3.more hb02.size) (by omega)).mono ?_; rintro e w4 ⟨g, rfl, hg, hR, hb4⟩)
          | (go_at_call 32; refine (HT.out _ _ hR).mono ?_; rintro e w5 ⟨rfl, hR5, hg5⟩)
          | fail)
        go_ret2
        have h4 := hb02.trans (hb4.mono hb02.size)
        exact ⟨rfl, h4.grown hg5 h4.size (fun k e => by obtain rfl : g = k := Option.some.inj e; exact Nat.le_trans hb02.size hg)⟩
    · rw [if_pos hE0]
      have q0 : (E != 0) = true := by simpa using hE0
      clear hE hW hn hln hs
      go_enter Try.func27, Try.ntmps27
      go_wp2_with (first
        | (go_at_call 14; refine HE.out.mono ?_; rintro e w1 ⟨rfl, hb1⟩)
        | (go_at_call 41; refine (HW.out _ hb1).mono ?_; rintro e w2 ⟨rfl, hb2⟩)
        | fail)
      go_ret2
      exact ⟨rfl, hb1.trans (hb2.mono hb1.size)⟩

end Go.Proofs.Ytccfiblkgngecaa

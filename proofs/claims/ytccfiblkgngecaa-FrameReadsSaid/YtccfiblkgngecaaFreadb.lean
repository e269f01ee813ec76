/- frame.Read. -/
import Derived.Test.YtccfiblkgngecaaFsize
namespace Go.Proofs.Ytccfiblkgngecaa
open Go.RowKit

def readOf (l : List UInt8) : Nat × List UInt8 × Int :=
  if (sizeOf l).2 ≠ 0 then (0, [], (sizeOf l).2) else
  if (joinedOf l (sectorsOf (sizeOf l).1) (headsOf l)).2 ≠ 0 then (0, [], (joinedOf l (sectorsOf (sizeOf l).1) (headsOf l)).2) else
  if (openedOf (joinedOf l (sectorsOf (sizeOf l).1) (headsOf l)).1 (sizeOf l).1).2 ≠ 0 then (0, [], (openedOf (joinedOf l (sectorsOf (sizeOf l).1) (headsOf l)).1 (sizeOf l).1).2) else
  (headsOf l, (openedOf (joinedOf l (sectorsOf (sizeOf l).1) (headsOf l)).1 (sizeOf l).1).1, 0)
def Tells3 (w : World) (r : Nat × List UInt8 × Int) (e : Ending) (w' : World) : Prop :=
  ∃ A n c, e = .returned (.tuple #[.int .u64 ((r.1 : Nat) : Int), .slice A n c, .int .i64 r.2.2]) ∧ n = r.2.1.length ∧ Rd w' w'.heap.size 1 A n c (u8s r.2.1) ∧ Below w.heap.size w w'
theorem sizeOf_le (l : List UInt8) : (sizeOf l).1 ≤ 65536 := by
  unfold sizeOf
  split
  · exact Nat.zero_le _
  · split
    · exact Nat.zero_le _
    · split
      · exact Nat.zero_le _
      · simp only; omega
theorem joinedOf_len (l : List UInt8) (k m : Nat) (h : (joinedOf l k m).2 = 0) : (joinedOf l k m).1.length = 48 * k := by
  unfold joinedOf at h ⊢
  split at h
  · cases h
  · rename_i h1
    rw [if_neg h1]
    split at h
    · rename_i h2; exact absurd h h2
    · rename_i h2
      rw [if_neg h2]
      exact pieces_len l k (by omega)

set_option maxHeartbeats 4000000 in
set_option maxRecDepth 8000 in
theorem read_frame (A : Option Addr) (n c : Nat) (l : List UInt8) (w : World) (h : Rd w w.heap.size 1 A n c (u8s l)) (hn : n ≤ 1000000) :
    Calls Try.prog 12 #[.slice A n c] w (Tells3 w (readOf l)) := by
  have hS := size_any' A n c l w h hn
  have hle := sizeOf_le l
  unfold readOf
  generalize sizeOf l = s at *
  obtain ⟨sz, E⟩ := s
  dsimp only at hS hle ⊢
  have HS := Lib.hid hS
  clear hS
  by_cases hE : E = 0
  · subst hE
    rw [if_neg (by decide)]
    have hk := sectorsOf_at sz hle
    have hSec := fun w => sectors_any (sz : Int) w (by simp [Lit.wf, IntKind.min, IntKind.max, IntKind.signed, IntKind.bits]; omega)
    obtain ⟨k, hkk⟩ : ∃ k, k = sectorsOf (sz : Int) := ⟨_, rfl⟩
    rw [← hkk] at hk hSec ⊢
    have hE := fun (w1 : World) (hb : Below w.heap.size w w1) => ends_any A n c l w1 ((h.below hb).more hb.size) hn
    have hJ := fun (w1 : World) (hb : Below w.heap.size w w1) => joined_any A n c k (headsOf l) l w1 ((h.below hb).more hb.size) hn (by omega) (by omega)
    have hjl := joinedOf_len l k (headsOf l)
    generalize headsOf l = hd1 at *
    generalize tailsOf l = tl1 at *
    generalize joinedOf l k hd1 = j at *
    obtain ⟨body, J⟩ := j
    dsimp only at hJ hjl ⊢
    have HSec := Lib.hid hSec
    have HE := Lib.hid hE
    have HJ := Lib.hid hJ
    have HK := Lib.hid hk
    have HLE := Lib.hid hle
    have HJL := Lib.hid hjl
    clear hSec hE hJ hk hle hkk hn hjl
    by_cases hJ0 : J = 0
    · subst hJ0
      rw [if_neg (by decide)]
      have hO := fun (w1 : World) (A1 : Option Addr) (n1 c1 : Nat) (hr : Rd w1 w1.heap.size 1 A1 n1 c1 (u8s body)) (hl : n1 = body.length) => opened_any A1 n1 c1 sz body w1 hr (by have := HJL.out rfl; have := HK.out; have := HLE.out; omega) (by have := HJL.out rfl; have := HK.out; omega)
      generalize openedOf body sz = o at *
      obtain ⟨t, O⟩ := o
      dsimp only at hO ⊢
      have HO := Lib.hid hO
      clear hO
      by_cases hO0 : O = 0
      · subst hO0
        rw [if_neg (by decide)]
        go_enter Try.func12, Try.ntmps12
        go_wp2_with (first
          | (go_at_call 27; refine HS.out.mono ?_; rintro e w1 ⟨rfl, hb1⟩)
          | (go_at_call 14; refine (HE.out _ hb1).mono ?_; rintro e w2 ⟨rfl, hb2⟩; have hb02 := hb1.trans (hb2.mono hb1.size))
          | (go_at_call 10; refine (HSec.out _).mono ?_; rintro e w0 ⟨rfl, rfl⟩)
          | (go_at_call 28; refine (HJ.out _ hb02).mono ?_; rintro e w3 ⟨A3, n3, c3, rfl, hn3, hr3, hb3⟩; subst hn3; have hb03 := hb02.trans (hb3.mono hb02.size))
          | (go_at_call 29; refine (HO.out _ _ _ _ hr3 rfl).mono ?_; rintro e w4 ⟨A4, n4, c4, rfl, hn4, hr4, hb4⟩; subst hn4)
          | fail)
        refine bodyPost_ret (results_tmp3 rfl _ _ _) rfl ?_
        exact ⟨A4, _, c4, rfl, rfl, hr4, hb03.trans (hb4.mono hb03.size)⟩
      · rw [if_pos hO0]
        have q0 : (O != 0) = true := by simpa using hO0
        go_enter Try.func12, Try.ntmps12
        go_wp2_with (first
          | (go_at_call 27; refine HS.out.mono ?_; rintro e w1 ⟨rfl, hb1⟩)
          | (go_at_call 14; refine (HE.out _ hb1).mono ?_; rintro e w2 ⟨rfl, hb2⟩; have hb02 := hb1.trans (hb2.mono hb1.size))
          | (go_at_call 10; refine (HSec.out _).mono ?_; rintro e w0 ⟨rfl, rfl⟩)
          | (go_at_call 28; refine (HJ.out _ hb02).mono ?_; rintro e w3 ⟨A3, n3, c3, rfl, hn3, hr3, hb3⟩; subst hn3; have hb03 := hb02.trans (hb3.mono hb02.size))
          | (go_at_call 29; refine (HO.out _ _ _ _ hr3 rfl).mono ?_; rintro e w4 ⟨A4, n4, c4, rfl, hn4, hr4, hb4⟩; subst hn4)
          | fail)
        refine bodyPost_ret (results_tmp3 rfl _ _ _) rfl ?_
        exact ⟨none, 0, 0, rfl, rfl, Rd.nil_, hb03.trans (hb4.mono hb03.size)⟩
    · rw [if_pos hJ0]
      have q0 : (J != 0) = true := by simpa using hJ0
      go_enter Try.func12, Try.ntmps12
      go_wp2_with (first
        | (go_at_call 27; refine HS.out.mono ?_; rintro e w1 ⟨rfl, hb1⟩)
        | (go_at_call 14; refine (HE.out _ hb1).mono ?_; rintro e w2 ⟨rfl, hb2⟩; have hb02 := hb1.trans (hb2.mono hb1.size))
        | (go_at_call 10; refine (HSec.out _).mono ?_; rintro e w0 ⟨rfl, rfl⟩)
        | (go_at_call 28; refine (HJ.out _ hb02).mono ?_; rintro e w3 ⟨A3, n3, c3, rfl, hn3, hr3, hb3⟩; subst hn3; have hb03 := hb02.trans (hb3.mono hb02.size))
        | fail)
      refine bodyPost_ret (results_tmp3 rfl _ _ _) rfl ?_
      exact ⟨none, 0, 0, rfl, rfl, Rd.nil_, hb03⟩
  · rw [if_pos hE]
    have q0 : (E != 0) = true := by simpa using hE
    go_enter Try.func12, Try.ntmps12
    go_wp2_with (first
      | (go_at_call 27; refine HS.out.mono ?_; rintro e w1 ⟨rfl, hb1⟩)
      | fail)
    refine bodyPost_ret (results_tmp3 rfl _ _ _) rfl ?_
    exact ⟨none, 0, 0, rfl, rfl, Rd.nil_, hb1⟩

end Go.Proofs.Ytccfiblkgngecaa

/- frame.size. frame.Read. What is made of a text is read as it was. -/
import Derived.Test.YtddnjlnhnnpgiaaFread
namespace Go.Proofs.Ytddnjlnhnnpgiaa
set_option maxRecDepth 20000
open Go.RowKit

def sizeNum (l : List UInt8) : Nat := unle (((l.drop 8).take 48).take 4)
def sizeOf (l : List UInt8) : Nat × Int :=
  if l.length < 64 then (0, 10) else if wrongOf l (headsOf l) ≠ 0 then (0, wrongOf l (headsOf l)) else if 65536 < sizeNum l then (0, 11) else (sizeNum l, 0)
theorem st_num4' (t : List UInt8) (ht : 4 ≤ t.length) : (St.num ⟨t, false⟩ 4).1 = unle (t.take 4) := by
  unfold St.num St.next
  rw [if_pos (by omega), if_pos (by dsimp only; omega)]
  rfl
theorem sizeNum_lt (l : List UInt8) : sizeNum l < 4294967296 := Nat.lt_of_lt_of_le (unle_lt _) (Nat.pow_le_pow_right (by decide) (by rw [List.length_take]; omega) : _ ≤ 256 ^ 4)

set_option maxHeartbeats 2000000 in
set_option maxRecDepth 8000 in
theorem size_any' (A : Option Addr) (n c : Nat) (l : List UInt8) (w : World) (h : Rd w w.heap.size 1 A n c (u8s l)) (hn : n ≤ 1000000) :
    Calls Try.prog 67 #[.slice A n c] w fun e w' => e = .returned (.tuple #[.int .i64 (((sizeOf l).1 : Nat) : Int), .int .i64 (sizeOf l).2]) ∧ Below w.heap.size w w' := by
  have hln : l.length = n := by have := h.len; rwa [u8s_len] at this
  by_cases hs : n < 64
  · have e : sizeOf l = (0, 10) := by unfold sizeOf; rw [if_pos (by omega)]
    rw [e]
    have hi : (n : Int) < 64 := by omega
    clear e hln hn
    go_enter Try.func67, Try.ntmps67
    go_wp2
    go_ret2
    exact ⟨rfl, Below.refl _ _⟩
  · have hd : decide ((n : Int) < 64) = false := by simp; omega
    have e : sizeOf l = if wrongOf l (headsOf l) ≠ 0 then (0, wrongOf l (headsOf l)) else if 65536 < sizeNum l then (0, 11) else (sizeNum l, 0) := by unfold sizeOf; rw [if_neg (by omega)]
    rw [e]
    clear e
    have hE := ends_any A n c l w h hn
    have hW := fun (w1 : World) (hb : Below w.heap.size w w1) => wrong_any A n c l (headsOf l) w1 ((h.below hb).more hb.size) hn
    generalize headsOf l = hd1 at *
    generalize tailsOf l = tl1 at *
    generalize wrongOf l hd1 = E at *
    have HE := Lib.hid hE
    have HW := Lib.hid hW
    have HN := Lib.hid hn
    have HLN := Lib.hid hln
    by_cases hE0 : E = 0
    · subst hE0
      have hP := fun (w1 : World) (hb : Below w.heap.size w w1) => piece_any A n c l w.heap.size w1 (h.below hb) (by omega) hn
      have HP := Lib.hid hP
      have hT := fun (g : Nat) (w1 : World) (hR : Rdr w1 g ⟨(l.drop 8).take 48, false⟩) => num_all g ⟨(l.drop 8).take 48, false⟩ 4 w1 hR
      rw [st_num4' _ (by rw [List.length_take, List.length_drop]; omega)] at hT
      have hlt := sizeNum_lt l
      have hpl : ((l.drop 8).take 48).length = 48 := by rw [List.length_take, List.length_drop]; omega
      unfold sizeNum at *
      generalize (l.drop 8).take 48 = pc at *
      obtain ⟨x, hx⟩ : ∃ x, x = unle (pc.take 4) := ⟨_, rfl⟩
      rw [← hx] at hT hlt ⊢
      have HT := Lib.hid hT
      have HLT := Lib.hid hlt
      have HPL := Lib.hid hpl
      clear hx hT hP hlt hpl hE hW hn hln hs
      rw [if_neg (by decide)]
      by_cases hbig : 65536 < x
      · rw [if_pos hbig]
        have d1 : decide ((65536 : Int) < (x : Int)) = true := by simp; omega
        clear hbig
        go_enter Try.func67, Try.ntmps67
        go_wp2_with (first
          | (go_at_call 50; refine HE.out.mono ?_; rintro e w1 ⟨rfl, hb1⟩)
          | (go_at_call 81; refine (HW.out _ hb1).mono ?_; rintro e w2 ⟨rfl, hb2⟩; have hb02 := hb1.trans (hb2.mono hb1.size))
          | (go_at_call 82; refine (HP.out _ hb02).mono ?_; rintro e w3 ⟨b3, o3, rfl, hr3, rfl⟩)
          | (go_at_call 72; refine (read_any _ _ _ _ _ (hr3.more hb02.size) (by omega)).mono ?_; rintro e w4 ⟨g, rfl, hg, hR, hb4⟩)
          | (go_at_call 73; refine (HT.out _ _ hR).mono ?_; rintro e w5 ⟨rfl, hR5, hg5⟩)
          | fail)
        go_ret2
        have h4 := hb02.trans (hb4.mono hb02.size)
        exact ⟨rfl, h4.grown hg5 h4.size (fun k e => by obtain rfl : g = k := Option.some.inj e; exact Nat.le_trans hb02.size hg)⟩
      · rw [if_neg hbig]
        have d1 : decide ((65536 : Int) < (x : Int)) = false := by simp; omega
        have hx63 : (x : Int) < 70000 := by omega
        clear hbig
        go_enter Try.func67, Try.ntmps67
        go_wp2_with (first
          | (go_at_call 50; refine HE.out.mono ?_; rintro e w1 ⟨rfl, hb1⟩)
          | (go_at_call 81; refine (HW.out _ hb1).mono ?_; rintro e w2 ⟨rfl, hb2⟩; have hb02 := hb1.trans (hb2.mono hb1.size))
          | (go_at_call 82; refine (HP.out _ hb02).mono ?_; rintro e w3 ⟨b3, o3, rfl, hr3, rfl⟩)
          | (go_at_call 72; refine (read_any _ _ _ _ _ (hr3.more hb02.size) (by omega)).mono ?_; rintro e w4 ⟨g, rfl, hg, hR, hb4⟩)
          | (go_at_call 73; refine (HT.out _ _ hR).mono ?_; rintro e w5 ⟨rfl, hR5, hg5⟩)
          | fail)
        go_ret2
        have h4 := hb02.trans (hb4.mono hb02.size)
        exact ⟨rfl, h4.grown hg5 h4.size (fun k e => by obtain rfl : g = k := Option.some.inj e; exact Nat.le_trans hb02.size hg)⟩
    · rw [if_pos hE0]
      have q0 : (E != 0) = true := by simpa using hE0
      clear hE hW hn hln hs
      go_enter Try.func67, Try.ntmps67
      go_wp2_with (first
        | (go_at_call 50; refine HE.out.mono ?_; rintro e w1 ⟨rfl, hb1⟩)
        | (go_at_call 81; refine (HW.out _ hb1).mono ?_; rintro e w2 ⟨rfl, hb2⟩)
        | fail)
      go_ret2
      exact ⟨rfl, hb1.trans (hb2.mono hb1.size)⟩

end Go.Proofs.Ytddnjlnhnnpgiaa

namespace Go.Proofs.Ytddnjlnhnnpgiaa
set_option maxRecDepth 20000
open Go.RowKit

def readOf (l : List UInt8) : Nat × List UInt8 × Int :=
  if (sizeOf l).2 ≠ 0 then (0, [], (sizeOf l).2) else
  if (joinedOf l (sectorsOf (sizeOf l).1) (headsOf l)).2 ≠ 0 then (0, [], (joinedOf l (sectorsOf (sizeOf l).1) (headsOf l)).2) else
  if (openedOf (joinedOf l (sectorsOf (sizeOf l).1) (headsOf l)).1 (sizeOf l).1).2 ≠ 0 then (0, [], (openedOf (joinedOf l (sectorsOf (sizeOf l).1) (headsOf l)).1 (sizeOf l).1).2) else
  (headsOf l, (openedOf (joinedOf l (sectorsOf (sizeOf l).1) (headsOf l)).1 (sizeOf l).1).1, 0)
def Tells3 (w : World) (r : Nat × List UInt8 × Int) (e : Ending) (w' : World) : Prop :=
  ∃ A n c, e = .returned (.tuple #[.int .u64 ((r.1 : Nat) : Int), .slice A n c, .int .i64 r.2.2]) ∧ n = r.2.1.length ∧ Rd w' w'.heap.size 1 A n c (u8s r.2.1) ∧ Below w.heap.size w w'
theorem sizeOf_le (l : List UInt8) : (sizeOf l).1 ≤ 65536 := by
  unfold sizeOf
  split
  · exact Nat.zero_le _
  · split
    · exact Nat.zero_le _
    · split
      · exact Nat.zero_le _
      · simp only; omega
theorem joinedOf_len (l : List UInt8) (k m : Nat) (h : (joinedOf l k m).2 = 0) : (joinedOf l k m).1.length = 48 * k := by
  unfold joinedOf at h ⊢
  split at h
  · cases h
  · rename_i h1
    rw [if_neg h1]
    split at h
    · rename_i h2; exact absurd h h2
    · rename_i h2
      rw [if_neg h2]
      exact pieces_len l k (by omega)

set_option maxHeartbeats 4000000 in
set_option maxRecDepth 8000 in
theorem read_frame (A : Option Addr) (n c : Nat) (l : List UInt8) (w : World) (h : Rd w w.heap.size 1 A n c (u8s l)) (hn : n ≤ 1000000) :
    Calls Try.prog 48 #[.slice A n c] w (Tells3 w (readOf l)) := by
  have hS := size_any' A n c l w h hn
  have hle := sizeOf_le l
  unfold readOf
  generalize sizeOf l = s at *
  obtain ⟨sz, E⟩ := s
  dsimp only at hS hle ⊢
  have HS := Lib.hid hS
  clear hS
  by_cases hE : E = 0
  · subst hE
    rw [if_neg (by decide)]
    have hk := sectorsOf_at sz hle
    have hSec := fun w => sectors_any (sz : Int) w (by simp [Lit.wf, IntKind.min, IntKind.max, IntKind.signed, IntKind.bits]; omega)
    obtain ⟨k, hkk⟩ : ∃ k, k = sectorsOf (sz : Int) := ⟨_, rfl⟩
    rw [← hkk] at hk hSec ⊢
    have hE := fun (w1 : World) (hb : Below w.heap.size w w1) => ends_any A n c l w1 ((h.below hb).more hb.size) hn
    have hJ := fun (w1 : World) (hb : Below w.heap.size w w1) => joined_any A n c k (headsOf l) l w1 ((h.below hb).more hb.size) hn (by omega) (by omega)
    have hjl := joinedOf_len l k (headsOf l)
    generalize headsOf l = hd1 at *
    generalize tailsOf l = tl1 at *
    generalize joinedOf l k hd1 = j at *
    obtain ⟨body, J⟩ := j
    dsimp only at hJ hjl ⊢
    have HSec := Lib.hid hSec
    have HE := Lib.hid hE
    have HJ := Lib.hid hJ
    have HK := Lib.hid hk
    have HLE := Lib.hid hle
    have HJL := Lib.hid hjl
    clear hSec hE hJ hk hle hkk hn hjl
    by_cases hJ0 : J = 0
    · subst hJ0
      rw [if_neg (by decide)]
      have hO := fun (w1 : World) (A1 : Option Addr) (n1 c1 : Nat) (hr : Rd w1 w1.heap.size 1 A1 n1 c1 (u8s body)) (hl : n1 = body.length) => opened_any A1 n1 c1 sz body w1 hr (by have := HJL.out rfl; have := HK.out; have := HLE.out; omega) (by have := HJL.out rfl; have := HK.out; omega)
      generalize openedOf body sz = o at *
      obtain ⟨t, O⟩ := o
      dsimp only at hO ⊢
      have HO := Lib.hid hO
      clear hO
      by_cases hO0 : O = 0
      · subst hO0
        rw [if_neg (by decide)]
        go_enter Try.func48, Try.ntmps48
        go_wp2_with (first
          | (go_at_call 67; refine HS.out.mono ?_; rintro e w1 ⟨rfl, hb1⟩)
          | (go_at_call 50; refine (HE.out _ hb1).mono ?_; rintro e w2 ⟨rfl, hb2⟩; have hb02 := hb1.trans (hb2.mono hb1.size))
          | (go_at_call 69; refine (HSec.out _).mono ?_; rintro e w0 ⟨rfl, rfl⟩)
          | (go_at_call 68; refine (HJ.out _ hb02).mono ?_; rintro e w3 ⟨A3, n3, c3, rfl, hn3, hr3, hb3⟩; subst hn3; have hb03 := hb02.trans (hb3.mono hb02.size))
          | (go_at_call 70; refine (HO.out _ _ _ _ hr3 rfl).mono ?_; rintro e w4 ⟨A4, n4, c4, rfl, hn4, hr4, hb4⟩; subst hn4)
          | fail)
        refine bodyPost_ret (results_tmp3 rfl _ _ _) rfl ?_
        exact ⟨A4, _, c4, rfl, rfl, hr4, hb03.trans (hb4.mono hb03.size)⟩
      · rw [if_pos hO0]
        have q0 : (O != 0) = true := by simpa using hO0
        go_enter Try.func48, Try.ntmps48
        go_wp2_with (first
          | (go_at_call 67; refine HS.out.mono ?_; rintro e w1 ⟨rfl, hb1⟩)
          | (go_at_call 50; refine (HE.out _ hb1).mono ?_; rintro e w2 ⟨rfl, hb2⟩; have hb02 := hb1.trans (hb2.mono hb1.size))
          | (go_at_call 69; refine (HSec.out _).mono ?_; rintro e w0 ⟨rfl, rfl⟩)
          | (go_at_call 68; refine (HJ.out _ hb02).mono ?_; rintro e w3 ⟨A3, n3, c3, rfl, hn3, hr3, hb3⟩; subst hn3; have hb03 := hb02.trans (hb3.mono hb02.size))
          | (go_at_call 70; refine (HO.out _ _ _ _ hr3 rfl).mono ?_; rintro e w4 ⟨A4, n4, c4, rfl, hn4, hr4, hb4⟩; subst hn4)
          | fail)
        refine bodyPost_ret (results_tmp3 rfl _ _ _) rfl ?_
        exact ⟨none, 0, 0, rfl, rfl, Rd.nil_, hb03.trans (hb4.mono hb03.size)⟩
    · rw [if_pos hJ0]
      have q0 : (J != 0) = true := by simpa using hJ0
      go_enter Try.func48, Try.ntmps48
      go_wp2_with (first
        | (go_at_call 67; refine HS.out.mono ?_; rintro e w1 ⟨rfl, hb1⟩)
        | (go_at_call 50; refine (HE.out _ hb1).mono ?_; rintro e w2 ⟨rfl, hb2⟩; have hb02 := hb1.trans (hb2.mono hb1.size))
        | (go_at_call 69; refine (HSec.out _).mono ?_; rintro e w0 ⟨rfl, rfl⟩)
        | (go_at_call 68; refine (HJ.out _ hb02).mono ?_; rintro e w3 ⟨A3, n3, c3, rfl, hn3, hr3, hb3⟩; subst hn3; have hb03 := hb02.trans (hb3.mono hb02.size))
        | fail)
      refine bodyPost_ret (results_tmp3 rfl _ _ _) rfl ?_
      exact ⟨none, 0, 0, rfl, rfl, Rd.nil_, hb03⟩
  · rw [if_pos hE]
    have q0 : (E != 0) = true := by simpa using hE
    go_enter Try.func48, Try.ntmps48
    go_wp2_with (first
      | (go_at_call 67; refine HS.out.mono ?_; rintro e w1 ⟨rfl, hb1⟩)
      | fail)
    refine bodyPost_ret (results_tmp3 rfl _ _ _) rfl ?_
    exact ⟨none, 0, 0, rfl, rfl, Rd.nil_, hb1⟩

end Go.Proofs.Ytddnjlnhnnpgiaa

namespace Go.Proofs.Ytddnjlnhnnpgiaa
set_option maxRecDepth 20000
open Go.RowKit

theorem openOf_sealed (x : List UInt8) : openOf (sealOf x) = (x, 0) := by
  have hl : (sealOf x).length = x.length + 4 := sealOf_len x
  have e1 : (sealOf x).take x.length = x := by rw [sealOf, List.take_left]
  have e2 : (sealOf x).drop x.length = le 4 (more 0 x) := by rw [sealOf, List.drop_left]
  unfold openOf
  rw [if_neg (by omega), hl, Nat.add_sub_cancel, e1, e2, if_pos]
  rw [unle_le]
  exact Nat.mod_eq_of_lt (sum_lt x)
section
variable {m : Nat} {p : List UInt8}
theorem headB_len : (headB m).length = 8 := by rw [headB, List.length_reverse, le_len]
theorem sec_len (hp : p.length = 48) : (sec m p).length = 64 := by simp only [sec, List.length_append, headB_len, le_len]; omega
theorem sec_head : (sec m p).take 8 = headB m := by
  rw [sec, List.append_assoc, List.take_append_of_le_length (by rw [headB_len]; exact Nat.le_refl _), List.take_of_length_le (by rw [headB_len]; exact Nat.le_refl _)]
theorem sec_drop8 : (sec m p).drop 8 = p ++ le 8 m := by
  rw [sec, List.append_assoc, List.drop_append_of_le_length (by rw [headB_len]; exact Nat.le_refl _), List.drop_of_length_le (by rw [headB_len]; exact Nat.le_refl _), List.nil_append]
theorem sec_piece (hp : p.length = 48) : ((sec m p).drop 8).take 48 = p := by
  rw [sec_drop8, List.take_append_of_le_length (by omega), List.take_of_length_le (by omega)]
theorem sec_tail (hp : p.length = 48) : ((sec m p).drop 56).take 8 = le 8 m := by
  rw [show 56 = 8 + 48 from rfl, ← List.drop_drop, sec_drop8, List.drop_append_of_le_length (by omega), List.drop_of_length_le (by omega), List.nil_append, List.take_of_length_le (by rw [le_len]; exact Nat.le_refl _)]
theorem unle_le8' (hm : m < 18446744073709551616) : unle (le 8 m) = m := by
  rw [unle_le]
  exact Nat.mod_eq_of_lt hm
theorem sec_ends (hp : p.length = 48) (hm : m < 18446744073709551616) : headsOf (sec m p) = m ∧ tailsOf (sec m p) = m := by
  have hl := sec_len (m := m) hp
  unfold headsOf tailsOf headOf tailOf
  rw [if_neg (by omega), if_neg (by omega), sec_head, sec_tail hp, headB, List.reverse_reverse, unle_le8' hm]
  exact ⟨rfl, rfl⟩
theorem sec_right (hp : p.length = 48) (hm : m < 18446744073709551616) (h0 : 0 < m) : wrongOf (sec m p) m = 0 := by
  obtain ⟨h1, h2⟩ := sec_ends hp hm
  unfold wrongOf
  rw [h1, h2, if_neg (by simp), if_neg (by omega)]
end
/-- The first sector tells all that the whole's beginning does. -/
theorem take64 (l : List UInt8) (a b : Nat) (h : a + b ≤ 64) : ((l.take 64).drop a).take b = (l.drop a).take b := by
  rw [List.drop_take, List.take_take, Nat.min_eq_left (by omega)]
theorem sect0 (l : List UInt8) : sect l 0 = l.take 64 := by rw [sect, Nat.mul_zero, List.drop_zero]
theorem first_ends (l : List UInt8) (h : 64 ≤ l.length) : headsOf l = headsOf (sect l 0) ∧ tailsOf l = tailsOf (sect l 0) := by
  have hl : (sect l 0).length = 64 := by rw [sect0, List.length_take]; omega
  unfold headsOf tailsOf headOf tailOf
  rw [if_neg (by omega), if_neg (by omega), if_neg (by omega), if_neg (by omega), sect0, take64 _ _ _ (by omega), List.take_take]
  exact ⟨rfl, rfl⟩
theorem first_wrong (l : List UInt8) (h : 64 ≤ l.length) (m : Nat) : wrongOf l m = wrongOf (sect l 0) m := by
  obtain ⟨h1, h2⟩ := first_ends l h
  unfold wrongOf
  rw [h1, h2]
theorem first_size (l : List UInt8) : sizeNum l = unle ((piece l 0).take 4) := by
  unfold sizeNum piece
  rw [sect0, take64 _ _ _ (by omega)]
theorem sect_len (l : List UInt8) (i : Nat) (h : 64 * (i + 1) ≤ l.length) : (sect l i).length = 64 := by rw [sect, List.length_take, List.length_drop]; omega

theorem chunk_len (body : List UInt8) (i k : Nat) (hi : i < k) (h : body.length = 48 * k) : ((body.drop (48 * i)).take 48).length = 48 := by rw [List.length_take, List.length_drop]; omega
theorem secs_sect (m : Nat) (body : List UInt8) (k : Nat) (hb : 48 * k ≤ body.length) : ∀ (i : Nat) (more : List UInt8), i < k → sect (secs m body k ++ more) i = sec m ((body.drop (48 * i)).take 48) := by
  induction k with
  | zero => intro i more hi; omega
  | succ k ih =>
    intro i more hi
    rw [secs, List.append_assoc]
    rcases Nat.lt_or_ge i k with h | h
    · exact ih (by omega) i _ h
    · obtain rfl : i = k := by omega
      have hl := secs_len m body i (by omega)
      have hp : ((body.drop (48 * i)).take 48).length = 48 := by rw [List.length_take, List.length_drop]; omega
      have hs := sec_len (m := m) hp
      rw [sect, List.drop_append_of_le_length (by omega), List.drop_of_length_le (by omega), List.nil_append, List.take_append_of_le_length (by omega), List.take_of_length_le (by omega)]
theorem pieces_secs (m : Nat) (body L : List UInt8) (k : Nat) (h : ∀ i, i < k → sect L i = sec m ((body.drop (48 * i)).take 48)) (hb : 48 * k ≤ body.length) : pieces L k = body.take (48 * k) := by
  induction k with
  | zero => rfl
  | succ k ih =>
    have hp : ((body.drop (48 * k)).take 48).length = 48 := by rw [List.length_take, List.length_drop]; omega
    rw [pieces, ih (fun i hi => h i (by omega)) (by omega), piece, h k (by omega), sec_piece hp, show 48 * (k + 1) = 48 * k + 48 from by omega, List.take_add]
theorem errAt_secs (m : Nat) (L : List UInt8) (k : Nat) (h : ∀ i, i < k → wrongOf (sect L i) m = 0) : errAt L m k = 0 := by
  induction k with
  | zero => rfl
  | succ k ih => rw [errAt, ih (fun i hi => h i (by omega)), if_neg (by decide), h k (by omega)]

/-- Bytes whose first sectors are those of a text's frame are read as that text. -/
theorem read_secs (m : Nat) (l L : List UInt8) (hl : l.length ≤ 65536) (hm : m < 18446744073709551616) (h0 : 0 < m) (hL : 64 * sectorsOf l.length ≤ L.length)
    (h : ∀ i, i < sectorsOf l.length → sect L i = sec m (((bodyOf l (sectorsOf l.length)).drop (48 * i)).take 48)) : readOf L = (m, l, 0) := by
  obtain ⟨k, hk⟩ : ∃ k, k = sectorsOf (l.length : Int) := ⟨_, rfl⟩
  rw [← hk] at hL h
  have hk2 : k = (l.length + 55) / 48 := hk.trans (sectorsOf_at _ hl)
  have hbl := bodyOf_len l k (by omega)
  have hb : (bodyOf l k).length = 48 * k := by omega
  have hright : ∀ i, i < k → wrongOf (sect L i) m = 0 := fun i hi => by rw [h i hi]; exact sec_right (chunk_len _ i k hi hb) hm h0
  obtain ⟨e1, e2⟩ := first_ends L (by omega)
  have hh : headsOf L = m := by rw [e1, h 0 (by omega)]; exact (sec_ends (chunk_len _ 0 k (by omega) hb) hm).1
  have hw : wrongOf L (headsOf L) = 0 := by rw [hh, first_wrong L (by omega)]; exact hright 0 (by omega)
  have hpc : piece L 0 = (bodyOf l k).take 48 := by rw [piece, h 0 (by omega), sec_piece (chunk_len _ 0 k (by omega) hb)]; rfl
  have hsz : sizeNum L = l.length := by
    rw [first_size, hpc, List.take_take, Nat.min_eq_left (by omega), bodyOf, sealOf, List.append_assoc, List.append_assoc, List.take_append_of_le_length (by rw [le_len]; exact Nat.le_refl _), List.take_of_length_le (by rw [le_len]; exact Nat.le_refl _), unle_le]
    exact Nat.mod_eq_of_lt (by omega)
  have hS : sizeOf L = (l.length, 0) := by
    unfold sizeOf
    rw [if_neg (by omega), if_neg (by rw [hw]; decide), hsz, if_neg (by omega)]
  have hJ : joinedOf L k m = (bodyOf l k, 0) := by
    unfold joinedOf
    rw [if_neg (by omega), errAt_secs m L k hright, if_neg (by decide), pieces_secs m _ L k h (by omega), List.take_of_length_le (by omega)]
  have hx : (le 4 l.length ++ l).length = l.length + 4 := by rw [List.length_append, le_len]; omega
  have hsl := sealOf_len (le 4 l.length ++ l)
  have hO : openedOf (bodyOf l k) l.length = (l, 0) := by
    unfold openedOf bodyOf
    rw [List.take_append_of_le_length (by omega), List.take_of_length_le (by omega), openOf_sealed, List.drop_append_of_le_length (by omega), List.drop_of_length_le (by omega), List.nil_append, if_neg (by simp), if_neg, List.drop_append_of_le_length (by rw [le_len]; exact Nat.le_refl _), List.drop_of_length_le (by rw [le_len]; exact Nat.le_refl _), List.nil_append]
    simp [hasNZ]
  unfold readOf
  rw [hS]
  simp only
  rw [← hk, hh, hJ]
  simp only
  rw [hO]
  simp
theorem read_make (m : Nat) (l more : List UInt8) (hl : l.length ≤ 65536) (hm : m < 18446744073709551616) (h0 : 0 < m) : readOf (makeOf m l ++ more) = (m, l, 0) := by
  have hk2 := sectorsOf_at _ hl
  have hbl := bodyOf_len l (sectorsOf (l.length : Int)) (by omega)
  have hsl := secs_len m (bodyOf l (sectorsOf (l.length : Int))) (sectorsOf (l.length : Int)) (by omega)
  refine read_secs m l _ hl hm h0 ?_ fun i hi => secs_sect m _ _ (by omega) i more hi
  rw [makeOf, List.length_append]
  omega

end Go.Proofs.Ytddnjlnhnnpgiaa

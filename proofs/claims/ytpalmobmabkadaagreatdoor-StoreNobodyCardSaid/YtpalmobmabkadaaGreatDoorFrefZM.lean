/- frame.Read. frame.size. frame.Read. What is made of a text is read as it was. A twin in memory, and its calls that only read. A twin: what was saved last, and what a place holds. A scope in which the run jumps to several labels. The document's own Make (keelsonref05). The document's own Make (keelsonref05): the whole. The document's own numbers at the ends of sectors (keelsonref05). -/
import Derived.Test.YtpalmobmabkadaaGreatDoorFjoinbZM
import Derived.Test.YtpalmobmabkadaaGreatDoorSegsZM
import Derived.Scope
import Derived.ScopeJumps
namespace Go.Proofs.YtpalmobmabkadaaGreatDoor
set_option maxRecDepth 20000
open Go.RowKit

def hasNZ (l : List UInt8) : Bool := l.any fun x => x != 0
theorem isNZ_any (x : UInt8) (w : World) : Calls Tryz.prog 144 #[.int .u8 (x.toNat : Int)] w fun e w' => e = .returned (.bool (x != 0)) ∧ w = w' := by
  by_cases h : x = 0
  · subst h
    go_enter Tryz.func144, Tryz.ntmps144
    go_wp2
    go_ret
    exact ⟨rfl, rfl⟩
  · have h1 : (x != 0) = true := by simpa using h
    have h2 : ((x.toNat : Int) != 0) = true := by
      have : x.toNat ≠ 0 := fun e => h (UInt8.toNat_inj.1 e)
      simp; omega
    rw [h1]
    clear h1 h
    go_enter Tryz.func144, Tryz.ntmps144
    go_wp2
    go_ret
    exact ⟨rfl, rfl⟩
theorem index_any (A : Option Addr) (n c B : Nat) (l : List UInt8) (w : World) (h : Rd w B 1 A n c (u8s l)) (hn : n ≤ 1000000) :
    Calls Tryz.prog 148 #[.slice A n c, .func (.func 144) #[] #[]] w fun e w' => ∃ r : Int, e = .returned (.int .i64 r) ∧ ((hasNZ l = false ∧ r = -1) ∨ (hasNZ l = true ∧ 0 ≤ r ∧ r ≤ 1000000)) ∧ w = w' := by
  have hln : l.length = n := by have := h.len; rwa [u8s_len] at this
  have HLN := Lib.hid hln
  clear hln
  go_enter Tryz.func148, Tryz.ntmps148
  go_wp2
  go_loop [8] (fun ir => ∃ i : Nat, i ≤ n ∧ ir = .int .i64 (i : Int) ∧ Hid (hasNZ (l.take i) = false)) (fun ir => n - (intOf ir).toNat)
  case atStart => exact ⟨0, Nat.zero_le _, rfl, Lib.hid rfl⟩
  case round =>
    obtain ⟨i, hi, rfl, hz⟩ := hrel
    by_cases hlt : i < n
    · obtain ⟨b, o, u, rfl, hbl, hu, hc⟩ := h.at_ hlt
      obtain ⟨x, hx, rfl⟩ := u8s_get _ _ _ hu
      obtain ⟨q, hq⟩ : ∃ q, q = (x != 0) := ⟨_, rfl⟩
      have hX := isNZ_any x w
      rw [← hq] at hX
      have HXX := Lib.hid hX
      have HX := Lib.hid hx
      have HQ := Lib.hid hq
      have hx0 : (0 : Int) ≤ (x.toNat : Int) := by omega
      clear hX hx hq hu
      cases q
      · have hz2 : Hid (hasNZ (l.take (i + 1)) = false) := Lib.hid (by
          obtain ⟨hil, hxe⟩ := List.getElem?_eq_some_iff.1 HX.out
          have h1 := hz.out
          unfold hasNZ at h1 ⊢
          rw [List.take_succ_eq_append_getElem hil, List.any_append, h1, hxe]
          simp only [List.any_cons, List.any_nil, ← HQ.out, Bool.or_self])
        go_wp2_with (go_at_call 144; refine HXX.out.mono ?_; rintro e w1 ⟨rfl, rfl⟩)
        go_round
        case rel => exact ⟨i + 1, by omega, by go_num, hz2⟩
        case measure => simp [intOf]; omega
      · have hl : hasNZ l = true := by
          unfold hasNZ
          rw [List.any_eq_true]
          exact ⟨x, List.mem_of_getElem? HX.out, HQ.out.symm⟩
        have HLL := Lib.hid hl
        clear hl
        go_wp2_with (go_at_call 144; refine HXX.out.mono ?_; rintro e w1 ⟨rfl, rfl⟩)
        go_ret
        exact ⟨_, rfl, .inr ⟨HLL.out, by omega, by omega⟩, rfl⟩
    · obtain rfl : i = n := by omega
      rw [List.take_of_length_le (by rw [HLN.out]; exact Nat.le_refl _)] at hz
      go_wp2
      go_ret
      exact ⟨_, rfl, .inl ⟨hz.out, rfl⟩, rfl⟩
theorem contains_any (A : Option Addr) (n c B : Nat) (l : List UInt8) (w : World) (h : Rd w B 1 A n c (u8s l)) (hn : n ≤ 1000000) :
    Calls Tryz.prog 143 #[.slice A n c, .func (.func 144) #[] #[]] w fun e w' => e = .returned (.bool (hasNZ l)) ∧ w = w' := by
  have hI := index_any A n c B l w h hn
  have HI := Lib.hid hI
  clear hI
  generalize hasNZ l = q at *
  cases q
  · go_enter Tryz.func143, Tryz.ntmps143
    go_wp2_with (go_at_call 148; refine HI.out.mono ?_; rintro e w1 ⟨r, rfl, hr, rfl⟩; obtain rfl : r = -1 := by rcases hr with ⟨_, h⟩ | ⟨h, _⟩ <;> first | exact h | exact absurd h (by decide))
    go_ret
    exact ⟨rfl, rfl⟩
  · go_enter Tryz.func143, Tryz.ntmps143
    go_wp2_with (go_at_call 148; refine HI.out.mono ?_; rintro e w1 ⟨r, rfl, hr, rfl⟩; have hr0 : 0 ≤ r := by rcases hr with ⟨h, _⟩ | ⟨_, h, _⟩ <;> first | exact h | exact absurd h (by decide))
    go_ret
    exact ⟨rfl, rfl⟩

def openedOf (body : List UInt8) (n : Nat) : List UInt8 × Int :=
  if (openOf (body.take (n + 8))).2 ≠ 0 then ([], (openOf (body.take (n + 8))).2) else if hasNZ (body.drop (n + 8)) then ([], 10) else ((openOf (body.take (n + 8))).1.drop 4, 0)
theorem openOf_len (l : List UInt8) (h : (openOf l).2 = 0) : (openOf l).1.length = l.length - 4 ∧ 4 ≤ l.length := by
  unfold openOf at h ⊢
  split at h
  · cases h
  · rename_i h4
    rw [if_neg h4]
    split at h
    · rename_i hs
      rw [if_pos hs]
      simp only [List.length_take]
      omega
    · cases h

set_option maxHeartbeats 4000000 in
set_option maxRecDepth 8000 in
theorem opened_any (A : Option Addr) (N c n : Nat) (body : List UInt8) (w : World) (h : Rd w w.heap.size 1 A N c (u8s body)) (hN : N ≤ 500000) (hn : n + 8 ≤ N) :
    Calls Tryz.prog 129 #[.slice A N c, .int .i64 (n : Int)] w (Tells w (openedOf body n).1 (openedOf body n).2) := by
  have hlN : body.length = N := by have := h.len; rwa [u8s_len] at this
  obtain ⟨b, o, rfl, hbl, hcell⟩ := h.2.2.2 (by omega)
  have hNc := h.1
  have h1 := h.pre (k := n + 8) hn
  rw [← u8s_take] at h1
  have h2 := h.cut (k := n + 8) (m := N - (n + 8)) (by omega)
  rw [List.take_of_length_le (by rw [List.length_drop, h.len]; omega), ← u8s_drop, Option.map_some, addOff] at h2
  have hO := open_any _ _ _ _ w h1 (by omega)
  have hlen := openOf_len (body.take (n + 8))
  rw [List.length_take] at hlen
  have hS := sealedLen_any (n : Int)
  have hsi : (4 : Int) + (n : Int) + 4 = ((n + 8 : Nat) : Int) := by omega
  unfold openedOf
  generalize body.take (n + 8) = b1 at *
  generalize body.drop (n + 8) = b2 at *
  generalize openOf b1 = r at *
  obtain ⟨t, E⟩ := r
  dsimp only at hO hlen ⊢
  have HO := Lib.hid hO
  have HS := Lib.hid (fun w => by have := hS w (by omega) (by omega); rw [hsi] at this; exact this)
  have H2 := Lib.hid h2
  have HLEN := Lib.hid hlen
  have hni : ((n + 8 : Nat) : Int) ≤ (N : Int) := by omega
  have hci : ((n + 8 : Nat) : Int) ≤ (c : Int) := by omega
  have HN := Lib.hid hN
  have HNN := Lib.hid hn
  have HBL := Lib.hid hlN
  have hA2 : c = n + 8 → Rd w w.heap.size 1 (some ⟨b, o, none⟩) (N - (n + 8)) 0 (u8s b2) := by
    intro e
    have e1 : N - (n + 8) = 0 := by omega
    have e2 : u8s b2 = [] := List.eq_nil_of_length_eq_zero (by rw [h2.len]; exact e1)
    rw [e1, e2]
    exact Rd.empty (Nat.zero_le _)
  have HA2 := Lib.hid hA2
  clear hA2
  clear hO hS h2 hlen h1 hcell h hlN hsi hN
  obtain ⟨M, hM⟩ : ∃ M, M = n + 8 := ⟨_, rfl⟩
  rw [← hM] at HO HS H2 HA2 hni hci HLEN HNN hn
  have HMM := Lib.hid hM
  clear hM
  by_cases hE : E = 0
  · subst hE
    rw [if_neg (by decide)]
    cases hq : hasNZ b2 with
    | true =>
      have HQ := Lib.hid hq
      clear hq
      rw [if_pos rfl]
      go_enter Tryz.func129, Tryz.ntmps129
      go_wp2_with (first
        | (go_at_call 109; refine (HS.out _).mono ?_; rintro e w0 ⟨rfl, rfl⟩)
        | (go_at_call 142; refine HO.out.mono ?_; rintro e w1 ⟨A1, n1, c1, rfl, hn1, hr1, hb1⟩)
        | (go_at_call 143; first
            | (refine (contains_any _ _ _ w.heap.size b2 _ (H2.out.below hb1) (by have := HN.out; omega)).mono ?_; rw [HQ.out]; rintro e w2 ⟨rfl, rfl⟩)
            | (refine (contains_any _ _ _ w.heap.size b2 _ ((HA2.out (by omega)).below hb1) (by have := HN.out; omega)).mono ?_; rw [HQ.out]; rintro e w2 ⟨rfl, rfl⟩))
        | fail)
      all_goals go_ret2
      all_goals exact ⟨none, 0, 0, rfl, rfl, Rd.nil_, hb1⟩
    | false =>
      have HQ := Lib.hid hq
      clear hq
      rw [if_neg (by decide)]
      obtain ⟨hl1, hl2⟩ := HLEN.out rfl
      have hl3 : t.length = n + 4 := by have := HMM.out; have := HNN.out; have := HBL.out; omega
      have HL3 := Lib.hid hl3
      clear hl1 hl2 hl3
      go_enter Tryz.func129, Tryz.ntmps129
      go_wp2_with (first
        | (go_at_call 109; refine (HS.out _).mono ?_; rintro e w0 ⟨rfl, rfl⟩)
        | (go_at_call 142; refine HO.out.mono ?_; rintro e w1 ⟨A1, n1, c1, rfl, hn1, hr1, hb1⟩
           have hn4 : n1 = n + 4 := hn1.trans HL3.out
           subst hn4
           obtain ⟨b3, o3, rfl, hb3, hc3⟩ := hr1.2.2.2 (by omega)
           have hnc3 := hr1.1
           have hr4 := hr1.cut (k := 4) (m := n) (by omega)
           rw [List.take_of_length_le (by rw [List.length_drop, hr1.len]; omega), ← u8s_drop, Option.map_some, addOff] at hr4
           have hr5 : c1 = 4 → Rd w1 w1.heap.size 1 (some ⟨b3, o3, none⟩) n 0 (u8s (t.drop 4)) := by
             intro e
             have e1 : n = 0 := by omega
             have e2 : u8s (t.drop 4) = [] := List.eq_nil_of_length_eq_zero (by rw [hr4.len]; exact e1)
             rw [e1, e2]
             exact Rd.empty (Nat.zero_le _)
           have HR5 := Lib.hid hr5
           have HR4 := Lib.hid hr4
           clear hr5
           clear hr4 hc3 hn1)
        | (go_at_call 143; first
            | (refine (contains_any _ _ _ w.heap.size b2 _ (H2.out.below hb1) (by have := HN.out; omega)).mono ?_; rw [HQ.out]; rintro e w2 ⟨rfl, rfl⟩)
            | (refine (contains_any _ _ _ w.heap.size b2 _ ((HA2.out (by omega)).below hb1) (by have := HN.out; omega)).mono ?_; rw [HQ.out]; rintro e w2 ⟨rfl, rfl⟩))
        | fail)
      all_goals go_ret2
      all_goals have hle : n = (t.drop 4).length := by rw [List.length_drop, HL3.out]; omega
      all_goals first
        | exact ⟨_, n, _, rfl, hle, HR4.out, hb1⟩
        | exact ⟨_, n, _, rfl, hle, HR5.out (by omega), hb1⟩
  · have q0 : (E != 0) = true := by simpa using hE
    rw [if_pos hE]
    go_enter Tryz.func129, Tryz.ntmps129
    go_wp2_with (first
      | (go_at_call 109; refine (HS.out _).mono ?_; rintro e w0 ⟨rfl, rfl⟩)
      | (go_at_call 142; refine HO.out.mono ?_; rintro e w1 ⟨A1, n1, c1, rfl, hn1, hr1, hb1⟩)
      | fail)
    go_ret2
    exact ⟨none, 0, 0, rfl, rfl, Rd.nil_, hb1⟩

end Go.Proofs.YtpalmobmabkadaaGreatDoor

namespace Go.Proofs.YtpalmobmabkadaaGreatDoor
set_option maxRecDepth 20000
open Go.RowKit

def sizeNum (l : List UInt8) : Nat := unle (((l.drop 8).take 48).take 4)
def sizeOf (l : List UInt8) : Nat × Int :=
  if l.length < 64 then (0, 10) else if wrongOf l (headsOf l) ≠ 0 then (0, wrongOf l (headsOf l)) else if 65536 < sizeNum l then (0, 11) else (sizeNum l, 0)
theorem st_num4' (t : List UInt8) (ht : 4 ≤ t.length) : (St.num ⟨t, false⟩ 4).1 = unle (t.take 4) := by
  unfold St.num St.next
  rw [if_pos (by omega), if_pos (by dsimp only; omega)]
  rfl
theorem sizeNum_lt (l : List UInt8) : sizeNum l < 4294967296 := Nat.lt_of_lt_of_le (unle_lt _) (Nat.pow_le_pow_right (by decide) (by rw [List.length_take]; omega) : _ ≤ 256 ^ 4)

set_option maxHeartbeats 2000000 in
set_option maxRecDepth 8000 in
theorem size_any' (A : Option Addr) (n c : Nat) (l : List UInt8) (w : World) (h : Rd w w.heap.size 1 A n c (u8s l)) (hn : n ≤ 1000000) :
    Calls Tryz.prog 127 #[.slice A n c] w fun e w' => e = .returned (.tuple #[.int .i64 (((sizeOf l).1 : Nat) : Int), .int .i64 (sizeOf l).2]) ∧ Below w.heap.size w w' := by
  have hln : l.length = n := by have := h.len; rwa [u8s_len] at this
  by_cases hs : n < 64
  · have e : sizeOf l = (0, 10) := by unfold sizeOf; rw [if_pos (by omega)]
    rw [e]
    have hi : (n : Int) < 64 := by omega
    clear e hln hn
    go_enter Tryz.func127, Tryz.ntmps127
    go_wp2
    go_ret2
    exact ⟨rfl, Below.refl _ _⟩
  · have hd : decide ((n : Int) < 64) = false := by simp; omega
    have e : sizeOf l = if wrongOf l (headsOf l) ≠ 0 then (0, wrongOf l (headsOf l)) else if 65536 < sizeNum l then (0, 11) else (sizeNum l, 0) := by unfold sizeOf; rw [if_neg (by omega)]
    rw [e]
    clear e
    have hE := ends_any A n c l w h hn
    have hW := fun (w1 : World) (hb : Below w.heap.size w w1) => wrong_any A n c l (headsOf l) w1 ((h.below hb).more hb.size) hn
    generalize headsOf l = hd1 at *
    generalize tailsOf l = tl1 at *
    generalize wrongOf l hd1 = E at *
    have HE := Lib.hid hE
    have HW := Lib.hid hW
    have HN := Lib.hid hn
    have HLN := Lib.hid hln
    by_cases hE0 : E = 0
    · subst hE0
      have hP := fun (w1 : World) (hb : Below w.heap.size w w1) => piece_any A n c l w.heap.size w1 (h.below hb) (by omega) hn
      have HP := Lib.hid hP
      have hT := fun (g : Nat) (w1 : World) (hR : Rdr w1 g ⟨(l.drop 8).take 48, false⟩) => num_all g ⟨(l.drop 8).take 48, false⟩ 4 w1 hR
      rw [st_num4' _ (by rw [List.length_take, List.length_drop]; omega)] at hT
      have hlt := sizeNum_lt l
      have hpl : ((l.drop 8).take 48).length = 48 := by rw [List.length_take, List.length_drop]; omega
      unfold sizeNum at *
      generalize (l.drop 8).take 48 = pc at *
      obtain ⟨x, hx⟩ : ∃ x, x = unle (pc.take 4) := ⟨_, rfl⟩
      rw [← hx] at hT hlt ⊢
      have HT := Lib.hid hT
      have HLT := Lib.hid hlt
      have HPL := Lib.hid hpl
      clear hx hT hP hlt hpl hE hW hn hln hs
      rw [if_neg (by decide)]
      by_cases hbig : 65536 < x
      · rw [if_pos hbig]
        have d1 : decide ((65536 : Int) < (x : Int)) = true := by simp; omega
        clear hbig
        go_enter Tryz.func127, Tryz.ntmps127
        go_wp2_with (first
          | (go_at_call 108; refine HE.out.mono ?_; rintro e w1 ⟨rfl, hb1⟩)
          | (go_at_call 140; refine (HW.out _ hb1).mono ?_; rintro e w2 ⟨rfl, hb2⟩; have hb02 := hb1.trans (hb2.mono hb1.size))
          | (go_at_call 141; refine (HP.out _ hb02).mono ?_; rintro e w3 ⟨b3, o3, rfl, hr3, rfl⟩)
          | (go_at_call 74; refine (read_any _ _ _ _ _ (hr3.more hb02.size) (by omega)).mono ?_; rintro e w4 ⟨g, rfl, hg, hR, hb4⟩)
          | (go_at_call 76; refine (HT.out _ _ hR).mono ?_; rintro e w5 ⟨rfl, hR5, hg5⟩)
          | fail)
        go_ret2
        have h4 := hb02.trans (hb4.mono hb02.size)
        exact ⟨rfl, h4.grown hg5 h4.size (fun k e => by obtain rfl : g = k := Option.some.inj e; exact Nat.le_trans hb02.size hg)⟩
      · rw [if_neg hbig]
        have d1 : decide ((65536 : Int) < (x : Int)) = false := by simp; omega
        have hx63 : (x : Int) < 70000 := by omega
        clear hbig
        go_enter Tryz.func127, Tryz.ntmps127
        go_wp2_with (first
          | (go_at_call 108; refine HE.out.mono ?_; rintro e w1 ⟨rfl, hb1⟩)
          | (go_at_call 140; refine (HW.out _ hb1).mono ?_; rintro e w2 ⟨rfl, hb2⟩; have hb02 := hb1.trans (hb2.mono hb1.size))
          | (go_at_call 141; refine (HP.out _ hb02).mono ?_; rintro e w3 ⟨b3, o3, rfl, hr3, rfl⟩)
          | (go_at_call 74; refine (read_any _ _ _ _ _ (hr3.more hb02.size) (by omega)).mono ?_; rintro e w4 ⟨g, rfl, hg, hR, hb4⟩)
          | (go_at_call 76; refine (HT.out _ _ hR).mono ?_; rintro e w5 ⟨rfl, hR5, hg5⟩)
          | fail)
        go_ret2
        have h4 := hb02.trans (hb4.mono hb02.size)
        exact ⟨rfl, h4.grown hg5 h4.size (fun k e => by obtain rfl : g = k := Option.some.inj e; exact Nat.le_trans hb02.size hg)⟩
    · rw [if_pos hE0]
      have q0 : (E != 0) = true := by simpa using hE0
      clear hE hW hn hln hs
      go_enter Tryz.func127, Tryz.ntmps127
      go_wp2_with (first
        | (go_at_call 108; refine HE.out.mono ?_; rintro e w1 ⟨rfl, hb1⟩)
        | (go_at_call 140; refine (HW.out _ hb1).mono ?_; rintro e w2 ⟨rfl, hb2⟩)
        | fail)
      go_ret2
      exact ⟨rfl, hb1.trans (hb2.mono hb1.size)⟩

end Go.Proofs.YtpalmobmabkadaaGreatDoor

namespace Go.Proofs.YtpalmobmabkadaaGreatDoor
set_option maxRecDepth 20000
open Go.RowKit

def readOf (l : List UInt8) : Nat × List UInt8 × Int :=
  if (sizeOf l).2 ≠ 0 then (0, [], (sizeOf l).2) else
  if (joinedOf l (sectorsOf (sizeOf l).1) (headsOf l)).2 ≠ 0 then (0, [], (joinedOf l (sectorsOf (sizeOf l).1) (headsOf l)).2) else
  if (openedOf (joinedOf l (sectorsOf (sizeOf l).1) (headsOf l)).1 (sizeOf l).1).2 ≠ 0 then (0, [], (openedOf (joinedOf l (sectorsOf (sizeOf l).1) (headsOf l)).1 (sizeOf l).1).2) else
  (headsOf l, (openedOf (joinedOf l (sectorsOf (sizeOf l).1) (headsOf l)).1 (sizeOf l).1).1, 0)
def Tells3 (w : World) (r : Nat × List UInt8 × Int) (e : Ending) (w' : World) : Prop :=
  ∃ A n c, e = .returned (.tuple #[.int .u64 ((r.1 : Nat) : Int), .slice A n c, .int .i64 r.2.2]) ∧ n = r.2.1.length ∧ Rd w' w'.heap.size 1 A n c (u8s r.2.1) ∧ Below w.heap.size w w'
theorem sizeOf_le (l : List UInt8) : (sizeOf l).1 ≤ 65536 := by
  unfold sizeOf
  split
  · exact Nat.zero_le _
  · split
    · exact Nat.zero_le _
    · split
      · exact Nat.zero_le _
      · simp only; omega
theorem joinedOf_len (l : List UInt8) (k m : Nat) (h : (joinedOf l k m).2 = 0) : (joinedOf l k m).1.length = 48 * k := by
  unfold joinedOf at h ⊢
  split at h
  · cases h
  · rename_i h1
    rw [if_neg h1]
    split at h
    · rename_i h2; exact absurd h h2
    · rename_i h2
      rw [if_neg h2]
      exact pieces_len l k (by omega)

set_option maxHeartbeats 4000000 in
set_option maxRecDepth 8000 in
theorem read_frame (A : Option Addr) (n c : Nat) (l : List UInt8) (w : World) (h : Rd w w.heap.size 1 A n c (u8s l)) (hn : n ≤ 1000000) :
    Calls Tryz.prog 106 #[.slice A n c] w (Tells3 w (readOf l)) := by
  have hS := size_any' A n c l w h hn
  have hle := sizeOf_le l
  unfold readOf
  generalize sizeOf l = s at *
  obtain ⟨sz, E⟩ := s
  dsimp only at hS hle ⊢
  have HS := Lib.hid hS
  clear hS
  by_cases hE : E = 0
  · subst hE
    rw [if_neg (by decide)]
    have hk := sectorsOf_at sz hle
    have hSec := fun w => sectors_any (sz : Int) w (by simp [Lit.wf, IntKind.min, IntKind.max, IntKind.signed, IntKind.bits]; omega)
    obtain ⟨k, hkk⟩ : ∃ k, k = sectorsOf (sz : Int) := ⟨_, rfl⟩
    rw [← hkk] at hk hSec ⊢
    have hE := fun (w1 : World) (hb : Below w.heap.size w w1) => ends_any A n c l w1 ((h.below hb).more hb.size) hn
    have hJ := fun (w1 : World) (hb : Below w.heap.size w w1) => joined_any A n c k (headsOf l) l w1 ((h.below hb).more hb.size) hn (by omega) (by omega)
    have hjl := joinedOf_len l k (headsOf l)
    generalize headsOf l = hd1 at *
    generalize tailsOf l = tl1 at *
    generalize joinedOf l k hd1 = j at *
    obtain ⟨body, J⟩ := j
    dsimp only at hJ hjl ⊢
    have HSec := Lib.hid hSec
    have HE := Lib.hid hE
    have HJ := Lib.hid hJ
    have HK := Lib.hid hk
    have HLE := Lib.hid hle
    have HJL := Lib.hid hjl
    clear hSec hE hJ hk hle hkk hn hjl
    by_cases hJ0 : J = 0
    · subst hJ0
      rw [if_neg (by decide)]
      have hO := fun (w1 : World) (A1 : Option Addr) (n1 c1 : Nat) (hr : Rd w1 w1.heap.size 1 A1 n1 c1 (u8s body)) (hl : n1 = body.length) => opened_any A1 n1 c1 sz body w1 hr (by have := HJL.out rfl; have := HK.out; have := HLE.out; omega) (by have := HJL.out rfl; have := HK.out; omega)
      generalize openedOf body sz = o at *
      obtain ⟨t, O⟩ := o
      dsimp only at hO ⊢
      have HO := Lib.hid hO
      clear hO
      by_cases hO0 : O = 0
      · subst hO0
        rw [if_neg (by decide)]
        go_enter Tryz.func106, Tryz.ntmps106
        go_wp2_with (first
          | (go_at_call 127; refine HS.out.mono ?_; rintro e w1 ⟨rfl, hb1⟩)
          | (go_at_call 108; refine (HE.out _ hb1).mono ?_; rintro e w2 ⟨rfl, hb2⟩; have hb02 := hb1.trans (hb2.mono hb1.size))
          | (go_at_call 72; refine (HSec.out _).mono ?_; rintro e w0 ⟨rfl, rfl⟩)
          | (go_at_call 128; refine (HJ.out _ hb02).mono ?_; rintro e w3 ⟨A3, n3, c3, rfl, hn3, hr3, hb3⟩; subst hn3; have hb03 := hb02.trans (hb3.mono hb02.size))
          | (go_at_call 129; refine (HO.out _ _ _ _ hr3 rfl).mono ?_; rintro e w4 ⟨A4, n4, c4, rfl, hn4, hr4, hb4⟩; subst hn4)
          | fail)
        refine bodyPost_ret (results_tmp3 rfl _ _ _) rfl ?_
        exact ⟨A4, _, c4, rfl, rfl, hr4, hb03.trans (hb4.mono hb03.size)⟩
      · rw [if_pos hO0]
        have q0 : (O != 0) = true := by simpa using hO0
        go_enter Tryz.func106, Tryz.ntmps106
        go_wp2_with (first
          | (go_at_call 127; refine HS.out.mono ?_; rintro e w1 ⟨rfl, hb1⟩)
          | (go_at_call 108; refine (HE.out _ hb1).mono ?_; rintro e w2 ⟨rfl, hb2⟩; have hb02 := hb1.trans (hb2.mono hb1.size))
          | (go_at_call 72; refine (HSec.out _).mono ?_; rintro e w0 ⟨rfl, rfl⟩)
          | (go_at_call 128; refine (HJ.out _ hb02).mono ?_; rintro e w3 ⟨A3, n3, c3, rfl, hn3, hr3, hb3⟩; subst hn3; have hb03 := hb02.trans (hb3.mono hb02.size))
          | (go_at_call 129; refine (HO.out _ _ _ _ hr3 rfl).mono ?_; rintro e w4 ⟨A4, n4, c4, rfl, hn4, hr4, hb4⟩; subst hn4)
          | fail)
        refine bodyPost_ret (results_tmp3 rfl _ _ _) rfl ?_
        exact ⟨none, 0, 0, rfl, rfl, Rd.nil_, hb03.trans (hb4.mono hb03.size)⟩
    · rw [if_pos hJ0]
      have q0 : (J != 0) = true := by simpa using hJ0
      go_enter Tryz.func106, Tryz.ntmps106
      go_wp2_with (first
        | (go_at_call 127; refine HS.out.mono ?_; rintro e w1 ⟨rfl, hb1⟩)
        | (go_at_call 108; refine (HE.out _ hb1).mono ?_; rintro e w2 ⟨rfl, hb2⟩; have hb02 := hb1.trans (hb2.mono hb1.size))
        | (go_at_call 72; refine (HSec.out _).mono ?_; rintro e w0 ⟨rfl, rfl⟩)
        | (go_at_call 128; refine (HJ.out _ hb02).mono ?_; rintro e w3 ⟨A3, n3, c3, rfl, hn3, hr3, hb3⟩; subst hn3; have hb03 := hb02.trans (hb3.mono hb02.size))
        | fail)
      refine bodyPost_ret (results_tmp3 rfl _ _ _) rfl ?_
      exact ⟨none, 0, 0, rfl, rfl, Rd.nil_, hb03⟩
  · rw [if_pos hE]
    have q0 : (E != 0) = true := by simpa using hE
    go_enter Tryz.func106, Tryz.ntmps106
    go_wp2_with (first
      | (go_at_call 127; refine HS.out.mono ?_; rintro e w1 ⟨rfl, hb1⟩)
      | fail)
    refine bodyPost_ret (results_tmp3 rfl _ _ _) rfl ?_
    exact ⟨none, 0, 0, rfl, rfl, Rd.nil_, hb1⟩

end Go.Proofs.YtpalmobmabkadaaGreatDoor

namespace Go.Proofs.YtpalmobmabkadaaGreatDoor
set_option maxRecDepth 20000
open Go.RowKit

theorem openOf_sealed (x : List UInt8) : openOf (sealOf x) = (x, 0) := by
  have hl : (sealOf x).length = x.length + 4 := sealOf_len x
  have e1 : (sealOf x).take x.length = x := by rw [sealOf, List.take_left]
  have e2 : (sealOf x).drop x.length = le 4 (more 0 x) := by rw [sealOf, List.drop_left]
  unfold openOf
  rw [if_neg (by omega), hl, Nat.add_sub_cancel, e1, e2, if_pos]
  rw [unle_le]
  exact Nat.mod_eq_of_lt (sum_lt x)
section
variable {m : Nat} {p : List UInt8}
theorem headB_len : (headB m).length = 8 := by rw [headB, List.length_reverse, le_len]
theorem sec_len (hp : p.length = 48) : (sec m p).length = 64 := by simp only [sec, List.length_append, headB_len, le_len]; omega
theorem sec_head : (sec m p).take 8 = headB m := by
  rw [sec, List.append_assoc, List.take_append_of_le_length (by rw [headB_len]; exact Nat.le_refl _), List.take_of_length_le (by rw [headB_len]; exact Nat.le_refl _)]
theorem sec_drop8 : (sec m p).drop 8 = p ++ le 8 m := by
  rw [sec, List.append_assoc, List.drop_append_of_le_length (by rw [headB_len]; exact Nat.le_refl _), List.drop_of_length_le (by rw [headB_len]; exact Nat.le_refl _), List.nil_append]
theorem sec_piece (hp : p.length = 48) : ((sec m p).drop 8).take 48 = p := by
  rw [sec_drop8, List.take_append_of_le_length (by omega), List.take_of_length_le (by omega)]
theorem sec_tail (hp : p.length = 48) : ((sec m p).drop 56).take 8 = le 8 m := by
  rw [show 56 = 8 + 48 from rfl, ← List.drop_drop, sec_drop8, List.drop_append_of_le_length (by omega), List.drop_of_length_le (by omega), List.nil_append, List.take_of_length_le (by rw [le_len]; exact Nat.le_refl _)]
theorem unle_le8' (hm : m < 18446744073709551616) : unle (le 8 m) = m := by
  rw [unle_le]
  exact Nat.mod_eq_of_lt hm
theorem sec_ends (hp : p.length = 48) (hm : m < 18446744073709551616) : headsOf (sec m p) = m ∧ tailsOf (sec m p) = m := by
  have hl := sec_len (m := m) hp
  unfold headsOf tailsOf headOf tailOf
  rw [if_neg (by omega), if_neg (by omega), sec_head, sec_tail hp, headB, List.reverse_reverse, unle_le8' hm]
  exact ⟨rfl, rfl⟩
theorem sec_right (hp : p.length = 48) (hm : m < 18446744073709551616) (h0 : 0 < m) : wrongOf (sec m p) m = 0 := by
  obtain ⟨h1, h2⟩ := sec_ends hp hm
  unfold wrongOf
  rw [h1, h2, if_neg (by simp), if_neg (by omega)]
end
/-- The first sector tells all that the whole's beginning does. -/
theorem take64 (l : List UInt8) (a b : Nat) (h : a + b ≤ 64) : ((l.take 64).drop a).take b = (l.drop a).take b := by
  rw [List.drop_take, List.take_take, Nat.min_eq_left (by omega)]
theorem sect0 (l : List UInt8) : sect l 0 = l.take 64 := by rw [sect, Nat.mul_zero, List.drop_zero]
theorem first_ends (l : List UInt8) (h : 64 ≤ l.length) : headsOf l = headsOf (sect l 0) ∧ tailsOf l = tailsOf (sect l 0) := by
  have hl : (sect l 0).length = 64 := by rw [sect0, List.length_take]; omega
  unfold headsOf tailsOf headOf tailOf
  rw [if_neg (by omega), if_neg (by omega), if_neg (by omega), if_neg (by omega), sect0, take64 _ _ _ (by omega), List.take_take]
  exact ⟨rfl, rfl⟩
theorem first_wrong (l : List UInt8) (h : 64 ≤ l.length) (m : Nat) : wrongOf l m = wrongOf (sect l 0) m := by
  obtain ⟨h1, h2⟩ := first_ends l h
  unfold wrongOf
  rw [h1, h2]
theorem first_size (l : List UInt8) : sizeNum l = unle ((piece l 0).take 4) := by
  unfold sizeNum piece
  rw [sect0, take64 _ _ _ (by omega)]
theorem sect_len (l : List UInt8) (i : Nat) (h : 64 * (i + 1) ≤ l.length) : (sect l i).length = 64 := by rw [sect, List.length_take, List.length_drop]; omega

theorem chunk_len (body : List UInt8) (i k : Nat) (hi : i < k) (h : body.length = 48 * k) : ((body.drop (48 * i)).take 48).length = 48 := by rw [List.length_take, List.length_drop]; omega
theorem secs_sect (m : Nat) (body : List UInt8) (k : Nat) (hb : 48 * k ≤ body.length) : ∀ (i : Nat) (more : List UInt8), i < k → sect (secs m body k ++ more) i = sec m ((body.drop (48 * i)).take 48) := by
  induction k with
  | zero => intro i more hi; omega
  | succ k ih =>
    intro i more hi
    rw [secs, List.append_assoc]
    rcases Nat.lt_or_ge i k with h | h
    · exact ih (by omega) i _ h
    · obtain rfl : i = k := by omega
      have hl := secs_len m body i (by omega)
      have hp : ((body.drop (48 * i)).take 48).length = 48 := by rw [List.length_take, List.length_drop]; omega
      have hs := sec_len (m := m) hp
      rw [sect, List.drop_append_of_le_length (by omega), List.drop_of_length_le (by omega), List.nil_append, List.take_append_of_le_length (by omega), List.take_of_length_le (by omega)]
theorem pieces_secs (m : Nat) (body L : List UInt8) (k : Nat) (h : ∀ i, i < k → sect L i = sec m ((body.drop (48 * i)).take 48)) (hb : 48 * k ≤ body.length) : pieces L k = body.take (48 * k) := by
  induction k with
  | zero => rfl
  | succ k ih =>
    have hp : ((body.drop (48 * k)).take 48).length = 48 := by rw [List.length_take, List.length_drop]; omega
    rw [pieces, ih (fun i hi => h i (by omega)) (by omega), piece, h k (by omega), sec_piece hp, show 48 * (k + 1) = 48 * k + 48 from by omega, List.take_add]
theorem errAt_secs (m : Nat) (L : List UInt8) (k : Nat) (h : ∀ i, i < k → wrongOf (sect L i) m = 0) : errAt L m k = 0 := by
  induction k with
  | zero => rfl
  | succ k ih => rw [errAt, ih (fun i hi => h i (by omega)), if_neg (by decide), h k (by omega)]

/-- Bytes whose first sectors are those of a text's frame are read as that text. -/
theorem read_secs (m : Nat) (l L : List UInt8) (hl : l.length ≤ 65536) (hm : m < 18446744073709551616) (h0 : 0 < m) (hL : 64 * sectorsOf l.length ≤ L.length)
    (h : ∀ i, i < sectorsOf l.length → sect L i = sec m (((bodyOf l (sectorsOf l.length)).drop (48 * i)).take 48)) : readOf L = (m, l, 0) := by
  obtain ⟨k, hk⟩ : ∃ k, k = sectorsOf (l.length : Int) := ⟨_, rfl⟩
  rw [← hk] at hL h
  have hk2 : k = (l.length + 55) / 48 := hk.trans (sectorsOf_at _ hl)
  have hbl := bodyOf_len l k (by omega)
  have hb : (bodyOf l k).length = 48 * k := by omega
  have hright : ∀ i, i < k → wrongOf (sect L i) m = 0 := fun i hi => by rw [h i hi]; exact sec_right (chunk_len _ i k hi hb) hm h0
  obtain ⟨e1, e2⟩ := first_ends L (by omega)
  have hh : headsOf L = m := by rw [e1, h 0 (by omega)]; exact (sec_ends (chunk_len _ 0 k (by omega) hb) hm).1
  have hw : wrongOf L (headsOf L) = 0 := by rw [hh, first_wrong L (by omega)]; exact hright 0 (by omega)
  have hpc : piece L 0 = (bodyOf l k).take 48 := by rw [piece, h 0 (by omega), sec_piece (chunk_len _ 0 k (by omega) hb)]; rfl
  have hsz : sizeNum L = l.length := by
    rw [first_size, hpc, List.take_take, Nat.min_eq_left (by omega), bodyOf, sealOf, List.append_assoc, List.append_assoc, List.take_append_of_le_length (by rw [le_len]; exact Nat.le_refl _), List.take_of_length_le (by rw [le_len]; exact Nat.le_refl _), unle_le]
    exact Nat.mod_eq_of_lt (by omega)
  have hS : sizeOf L = (l.length, 0) := by
    unfold sizeOf
    rw [if_neg (by omega), if_neg (by rw [hw]; decide), hsz, if_neg (by omega)]
  have hJ : joinedOf L k m = (bodyOf l k, 0) := by
    unfold joinedOf
    rw [if_neg (by omega), errAt_secs m L k hright, if_neg (by decide), pieces_secs m _ L k h (by omega), List.take_of_length_le (by omega)]
  have hx : (le 4 l.length ++ l).length = l.length + 4 := by rw [List.length_append, le_len]; omega
  have hsl := sealOf_len (le 4 l.length ++ l)
  have hO : openedOf (bodyOf l k) l.length = (l, 0) := by
    unfold openedOf bodyOf
    rw [List.take_append_of_le_length (by omega), List.take_of_length_le (by omega), openOf_sealed, List.drop_append_of_le_length (by omega), List.drop_of_length_le (by omega), List.nil_append, if_neg (by simp), if_neg, List.drop_append_of_le_length (by rw [le_len]; exact Nat.le_refl _), List.drop_of_length_le (by rw [le_len]; exact Nat.le_refl _), List.nil_append]
    simp [hasNZ]
  unfold readOf
  rw [hS]
  simp only
  rw [← hk, hh, hJ]
  simp only
  rw [hO]
  simp
theorem read_make (m : Nat) (l more : List UInt8) (hl : l.length ≤ 65536) (hm : m < 18446744073709551616) (h0 : 0 < m) : readOf (makeOf m l ++ more) = (m, l, 0) := by
  have hk2 := sectorsOf_at _ hl
  have hbl := bodyOf_len l (sectorsOf (l.length : Int)) (by omega)
  have hsl := secs_len m (bodyOf l (sectorsOf (l.length : Int))) (sectorsOf (l.length : Int)) (by omega)
  refine read_secs m l _ hl hm h0 ?_ fun i hi => secs_sect m _ _ (by omega) i more hi
  rw [makeOf, List.length_append]
  omega

end Go.Proofs.YtpalmobmabkadaaGreatDoor

namespace Go.Proofs.YtpalmobmabkadaaGreatDoor
set_option maxRecDepth 20000
open Go.RowKit

/-- What a twin is: where its places begin, how great they are, which one is the last one's, its number, its text, and the next number. -/
structure Tv where
  base : Int
  size : Int
  place : Int
  number : Nat
  text : List UInt8
  next : Nat
def twRow (g : Option Addr) (t : Tv) : Array Value := #[.pointer g, .int .i64 t.base, .int .i64 t.size, .int .i64 t.place, .int .u64 (t.number : Int), .string (str t.text), .int .u64 (t.next : Int)]
/-- A twin's row. -/
def Tw (w : World) (T : Nat) (g : Option Addr) (t : Tv) : Prop := w.heap[T]? = some (.cells (twRow g t) 131 (0, 0))
section
variable {w : World} {T : Nat} {g : Option Addr} {t : Tv}
theorem Tw.c0 (h : Tw w T g t) : w.cell? ⟨T, 0, none⟩ = some (.pointer g) := cell_of_row w T 0 _ _ _ h
theorem Tw.c1 (h : Tw w T g t) : w.cell? ⟨T, 1, none⟩ = some (.int .i64 t.base) := cell_of_row w T 1 _ _ _ h
theorem Tw.c2 (h : Tw w T g t) : w.cell? ⟨T, 2, none⟩ = some (.int .i64 t.size) := cell_of_row w T 2 _ _ _ h
theorem Tw.c3 (h : Tw w T g t) : w.cell? ⟨T, 3, none⟩ = some (.int .i64 t.place) := cell_of_row w T 3 _ _ _ h
theorem Tw.c4 (h : Tw w T g t) : w.cell? ⟨T, 4, none⟩ = some (.int .u64 (t.number : Int)) := cell_of_row w T 4 _ _ _ h
theorem Tw.c5 (h : Tw w T g t) : w.cell? ⟨T, 5, none⟩ = some (.string (str t.text)) := cell_of_row w T 5 _ _ _ h
theorem Tw.c6 (h : Tw w T g t) : w.cell? ⟨T, 6, none⟩ = some (.int .u64 (t.next : Int)) := cell_of_row w T 6 _ _ _ h
theorem Tw.below {w' : World} (h : Tw w T g t) (hb : Below w.heap.size w w') : Tw w' T g t := (hb.block T (Array.getElem?_eq_some_iff.1 h).1).trans h
theorem Tw.lt (h : Tw w T g t) : T < w.heap.size := (Array.getElem?_eq_some_iff.1 h).1
end

theorem twnumber_nil (w : World) : Calls Tryz.prog 73 #[.pointer none] w fun e w' => e = .returned (.int .u64 0) ∧ w = w' := by
  go_enter Tryz.func73, Tryz.ntmps73
  go_wp2
  go_ret
  exact ⟨rfl, rfl⟩
theorem twnumber_any {w : World} {T : Nat} {g : Option Addr} {t : Tv} (h : Tw w T g t) : Calls Tryz.prog 73 #[.pointer (some ⟨T, 0, none⟩)] w fun e w' => e = .returned (.int .u64 (t.number : Int)) ∧ w = w' := by
  have c4 := h.c4
  go_enter Tryz.func73, Tryz.ntmps73
  go_wp2
  go_ret
  exact ⟨rfl, rfl⟩
theorem twnext_nil (w : World) : Calls Tryz.prog 62 #[.pointer none] w fun e w' => e = .returned (.int .u64 0) ∧ w = w' := by
  go_enter Tryz.func62, Tryz.ntmps62
  go_wp2
  go_ret
  exact ⟨rfl, rfl⟩
theorem twnext_any {w : World} {T : Nat} {g : Option Addr} {t : Tv} (h : Tw w T g t) : Calls Tryz.prog 62 #[.pointer (some ⟨T, 0, none⟩)] w fun e w' => e = .returned (.int .u64 (t.next : Int)) ∧ w = w' := by
  have c6 := h.c6
  go_enter Tryz.func62, Tryz.ntmps62
  go_wp2
  go_ret
  exact ⟨rfl, rfl⟩
theorem topen_nil (w : World) : Calls Tryz.prog 97 #[.pointer none] w fun e w' => e = .returned (.bool false) ∧ w = w' := by
  go_enter Tryz.func97, Tryz.ntmps97
  go_wp2
  go_ret
  exact ⟨rfl, rfl⟩
theorem topen_bare {w : World} {T : Nat} {t : Tv} (h : Tw w T none t) : Calls Tryz.prog 97 #[.pointer (some ⟨T, 0, none⟩)] w fun e w' => e = .returned (.bool false) ∧ w = w' := by
  have c0 := h.c0
  go_enter Tryz.func97, Tryz.ntmps97
  go_wp2
  go_ret
  exact ⟨rfl, rfl⟩
theorem topen_any {w : World} {T : Nat} {g : Addr} {t : Tv} (h : Tw w T (some g) t) : Calls Tryz.prog 97 #[.pointer (some ⟨T, 0, none⟩)] w fun e w' => e = .returned (.bool true) ∧ w = w' := by
  have c0 := h.c0
  go_enter Tryz.func97, Tryz.ntmps97
  go_wp2
  go_ret
  exact ⟨rfl, rfl⟩
/-- How many bytes can be saved. -/
def Tv.room (t : Tv) : Int := min (t.size * 48 - 8) 65536
theorem twroom_nil (w : World) : Calls Tryz.prog 98 #[.pointer none] w fun e w' => e = .returned (.int .i64 0) ∧ w = w' := by
  go_enter Tryz.func98, Tryz.ntmps98
  go_wp2_with (go_at_call 97; refine (topen_nil _).mono ?_; rintro e w1 ⟨rfl, rfl⟩)
  go_ret
  exact ⟨rfl, rfl⟩
theorem twroom_bare {w : World} {T : Nat} {t : Tv} (h : Tw w T none t) : Calls Tryz.prog 98 #[.pointer (some ⟨T, 0, none⟩)] w fun e w' => e = .returned (.int .i64 0) ∧ w = w' := by
  have HO := Lib.hid (topen_bare h)
  go_enter Tryz.func98, Tryz.ntmps98
  go_wp2_with (go_at_call 97; refine HO.out.mono ?_; rintro e w1 ⟨rfl, rfl⟩)
  go_ret
  exact ⟨rfl, rfl⟩
theorem twroom_any {w : World} {T : Nat} {g : Addr} {t : Tv} (h : Tw w T (some g) t) (h0 : 0 ≤ t.size) (h1 : t.size ≤ 65536) : Calls Tryz.prog 98 #[.pointer (some ⟨T, 0, none⟩)] w fun e w' => e = .returned (.int .i64 t.room) ∧ w = w' := by
  have HO := Lib.hid (topen_any h)
  have c2 := h.c2
  obtain ⟨R, hR⟩ : ∃ R, R = t.room := ⟨_, rfl⟩
  have e1 : (if (65536 : Int) < t.size * 48 - 8 then (65536 : Int) else t.size * 48 - 8) = R := by rw [hR]; unfold Tv.room; split <;> omega
  have e2 : min (t.size * 48 - 8) (65536 : Int) = R := hR.symm
  have e3 : (if t.size * 48 - 8 < (65536 : Int) then t.size * 48 - 8 else (65536 : Int)) = R := by rw [hR]; unfold Tv.room; split <;> omega
  rw [← hR]
  generalize t.size = s at *
  clear hR h
  go_enter Tryz.func98, Tryz.ntmps98
  go_wp2_with (go_at_call 97; refine HO.out.mono ?_; rintro e w1 ⟨rfl, rfl⟩)
  go_ret
  exact ⟨rfl, rfl⟩
/-- The place that the last one does not need. -/
def Tv.free (t : Tv) : Int := if t.number = 0 then 0 else 1 - t.place
theorem twfree_any {w : World} {T : Nat} {g : Option Addr} {t : Tv} (h : Tw w T g t) (h0 : 0 ≤ t.place) (h1 : t.place ≤ 1) : Calls Tryz.prog 99 #[.pointer (some ⟨T, 0, none⟩)] w fun e w' => e = .returned (.int .i64 t.free) ∧ w = w' := by
  have c3 := h.c3
  have c4 := h.c4
  unfold Tv.free
  by_cases hn : t.number = 0
  · rw [if_pos hn]
    rw [hn] at c4
    clear h hn
    go_enter Tryz.func99, Tryz.ntmps99
    go_wp2
    go_ret
    exact ⟨rfl, rfl⟩
  · rw [if_neg hn]
    have q1 : ((t.number : Int) == 0) = false := by simp; omega
    have q2 : (t.number == 0) = false := by simpa using hn
    clear h
    go_enter Tryz.func99, Tryz.ntmps99
    go_wp2
    go_ret
    exact ⟨rfl, rfl⟩

end Go.Proofs.YtpalmobmabkadaaGreatDoor

namespace Go.Proofs.YtpalmobmabkadaaGreatDoor
set_option maxRecDepth 20000
open Go.RowKit

/-- Bytes of a string in memory of their own. -/
theorem wpL_strb {P : Program} {w : World} {ops : Array Oper} {rest : List Oper} {o : Oper} {a : Act} {Q : Exit → Act → World → Prop} (hgd : o.guard = none) (x : Operand) (tx t : TypeId) (ho : o.op = .convert tx t x)
    {e : TypeId} (hs : P.underlying tx = some .string) (ht : P.underlying t = some (.slice e)) (he : P.underlying e = some (.int .u8)) {l : List UInt8} (hx : a.eval x = .string (str l)) (hlm : l.length ≤ maxLen)
    (h : ∀ (W : World) (A : Option Addr) (cap : Nat), Rd W W.heap.size 1 A l.length cap (u8s l) → (∀ b i, A = some ⟨b, i, none⟩ → w.heap.size ≤ b) → Below w.heap.size w W → wpList P ops Q rest (a.put o.dst (.slice A l.length cap)) W) : wpList P ops Q (o :: rest) a w := by
  have hrun := run_bytes_of_string w tx t e (str l) hs ht he
  have hge := grownCap_ge w (str l).size 0 e
  have hle := grownCap_le_maxLen w (str l).size 0 e hlm
  have hrow : bytesRow (str l) (grownCap w (str l).size 0 e) = (u8s l ++ List.replicate (grownCap w (str l).size 0 e - (str l).size) (Value.int .u8 0)).toArray := by
    unfold bytesRow
    apply Array.ext'
    simp only [str, u8s, Array.toList_append, Array.toList_map, Array.toList_replicate]
    rfl
  have hsz : l.length ≤ (bytesRow (str l) (grownCap w (str l).size 0 e)).size := by rw [hrow]; simp [u8s_len]
  have hnew := (heap_alloc_new w.drew (.cells (bytesRow (str l) (grownCap w (str l).size 0 e)) e ((bytesRow (str l) (grownCap w (str l).size 0 e)).size, (bytesRow (str l) (grownCap w (str l).size 0 e)).size + 1)))
  refine wpList_plain hgd fun K hK => ?_
  unfold Oper.wp
  simp only [execOp, ho, hx, Sem.run_bind, hrun, Result.andThen_ok, Sem.run_pure]
  refine hK _ _ (h _ (some ⟨w.heap.size, 0, none⟩) (grownCap w (str l).size 0 e) ⟨hge, hle, by rw [u8s_len, Nat.mul_one], fun _ => ⟨w.heap.size, 0, rfl, by simp, fun j u hu => ?_⟩⟩ (fun b i e => by cases e; exact Nat.le_refl _) ?_)
  · rw [cell_of_row _ w.heap.size (0 + j) _ _ _ hnew, hrow, Nat.zero_add]
    have hj := (List.getElem?_eq_some_iff.1 hu).1
    simp only [List.getElem?_toArray]
    rw [List.getElem?_append_left hj]
    exact hu
  · exact undrew ((Below.refl w.drew.heap.size w.drew).alloc (Nat.le_refl _) _)

theorem twlast_nil (w : World) : Calls Tryz.prog 37 #[.pointer none] w fun e w' => e = .returned (.tuple #[.slice none 0 0, .bool false]) ∧ w = w' := by
  go_enter Tryz.func37, Tryz.ntmps37
  go_wp2_with (go_at_call 73; refine (twnumber_nil _).mono ?_; rintro e w1 ⟨rfl, rfl⟩)
  go_ret2
  exact ⟨rfl, rfl⟩
theorem twlast_none {w : World} {T : Nat} {g : Option Addr} {t : Tv} (h : Tw w T g t) (hn : t.number = 0) : Calls Tryz.prog 37 #[.pointer (some ⟨T, 0, none⟩)] w fun e w' => e = .returned (.tuple #[.slice none 0 0, .bool false]) ∧ w = w' := by
  have hN := twnumber_any h
  rw [hn] at hN
  have HN := Lib.hid hN
  clear hN h hn
  go_enter Tryz.func37, Tryz.ntmps37
  go_wp2_with (go_at_call 73; refine HN.out.mono ?_; rintro e w1 ⟨rfl, rfl⟩)
  go_ret2
  exact ⟨rfl, rfl⟩
theorem twlast_some {w : World} {T : Nat} {g : Option Addr} {t : Tv} (h : Tw w T g t) (hn : 0 < t.number) (hl : t.text.length ≤ maxLen) : Calls Tryz.prog 37 #[.pointer (some ⟨T, 0, none⟩)] w fun e w' => ∃ A c, e = .returned (.tuple #[.slice A t.text.length c, .bool true]) ∧ Rd w' w'.heap.size 1 A t.text.length c (u8s t.text) ∧ Below w.heap.size w w' := by
  have hN := twnumber_any h
  have c5 := h.c5
  have q1 : ((t.number : Int) == 0) = false := by simp; omega
  have q2 : (t.number == 0) = false := by simp; omega
  generalize t.number = n at *
  generalize t.text = l at *
  have HN := Lib.hid hN
  have HL := Lib.hid hl
  clear hN h hn hl
  go_enter Tryz.func37, Tryz.ntmps37
  go_wp2_with (first
    | (go_at_call 73; refine HN.out.mono ?_; rintro e w1 ⟨rfl, rfl⟩)
    | (refine wpL_strb (o := ⟨some 12, _, _, _, _, _⟩) rfl (.tmp 11) _ _ rfl Tryz.underlying9 Tryz.underlying86 Tryz.underlying5 rfl HL.out ?_; intro W A cap hrd hfar hb)
    | fail)
  go_ret2
  exact ⟨A, cap, rfl, hrd, hb⟩

/-- What a place holds. -/
def heldOf (l : List UInt8) : Nat × List UInt8 := ((readOf l).1, (readOf l).2.1)
set_option maxHeartbeats 1000000 in
theorem held_any (p : Int) (A : Option Addr) (n c : Nat) (l : List UInt8) (w : World) (h : Rd w w.heap.size 1 A n c (u8s l)) (hn : n ≤ 1000000) :
    Calls Tryz.prog 70 #[.int .i64 p, .slice A n c] w fun e w' => e = .returned (.agg #[.int .i64 p, .int .u64 ((heldOf l).1 : Int), .string (str (heldOf l).2)]) ∧ Below w.heap.size w w' := by
  obtain ⟨W, hW, hz, r0, hb⟩ : ∃ W, W = w.alloc (.cells #[.int .i64 0, .int .u64 0, .string { data := #[] }] 126) ∧ W.heap.size = w.heap.size + 1 ∧ W.heap[w.heap.size]? = some (.cells #[.int .i64 0, .int .u64 0, .string { data := #[] }] 126 (0, 0)) ∧ Below w.heap.size w W := ⟨_, rfl, by simp, heap_alloc_new w _, (Below.refl _ _).alloc (Nat.le_refl _) _⟩
  have hR := read_frame A n c l W ((h.below hb).more hb.size) hn
  unfold heldOf
  generalize readOf l = r at *
  obtain ⟨m, t, E⟩ := r
  have HR := Lib.hid hR
  have HB := Lib.hid hb
  have HZ := Lib.hid hz
  have HW := Lib.hid hW
  have HR0 := Lib.hid r0
  clear hR hb hz hW r0 h
  dsimp only
  go_enter Tryz.func70, Tryz.ntmps70
  go_wp2_with (first
    | (go_at_call 106; rw [← HW.out]; refine HR.out.mono ?_; rintro e w1 ⟨A1, n1, c1, rfl, hn1, hrd1, hb1⟩
       dsimp only at hn1 hrd1
       subst hn1
       have hcv := run_str Tryz.underlying86 Tryz.underlying5 Tryz.underlying9 hrd1
       have s0 := (hb1.cell (p := ⟨w.heap.size, 0, none⟩) (by have := HZ.out; simp; omega)).trans (cell_of_row _ _ 0 _ _ _ HR0.out)
       have s1 := (hb1.cell (p := ⟨w.heap.size, 1, none⟩) (by have := HZ.out; simp; omega)).trans (cell_of_row _ _ 1 _ _ _ HR0.out)
       have s2 := (hb1.cell (p := ⟨w.heap.size, 2, none⟩) (by have := HZ.out; simp; omega)).trans (cell_of_row _ _ 2 _ _ _ HR0.out)
       have z0 := frozenz hb1 0 HR0.out (by have := HZ.out; omega)
       have z1 := frozenz hb1 1 HR0.out (by have := HZ.out; omega)
       have z2 := frozenz hb1 2 HR0.out (by have := HZ.out; omega)
       simp at s0 s1 s2
       have HB1 := Lib.hid (HB.out.trans (hb1.mono HB.out.size))
       clear hb1 hrd1)
    | fail)
  exact bodyPost_ret (v := .agg #[.int .i64 p, .int .u64 (m : Int), .string (str t)]) (by simp [results, Tryz.results70, go_sem, s0, s1, s2]) rfl ⟨rfl, ((HB1.out.setCell (by simp) _).setCell (by simp) _).setCell (by simp) _⟩

end Go.Proofs.YtpalmobmabkadaaGreatDoor

namespace Go.Proofs.YtpalmobmabkadaaGreatDoor
set_option maxRecDepth 20000

/-- As Q; by a goto to a label: what J says of it. -/
def jumps (J : Nat → Act → World → Prop) (Q : Exit → Act → World → Prop) : Exit → Act → World → Prop
  | .goto l, a, w => J l a w
  | e, a, w => Q e a w

theorem wp_scope_labels {P : Program} {a : Act} {w : World} {Q : Exit → Act → World → Prop} {c : Code} (J : Nat → Act → World → Prop) (μ : Nat → Act → World → Nat)
    (first : c.wp P (jumps J Q) a w)
    (pass : ∀ l a w, J l a w → ∃ rest, findLabel c l = some rest ∧ rest.wp P (jumps (fun l' a' w' => J l' a' w' ∧ μ l' a' w' < μ l a w) Q) a w) : (Code.scope c).wp P Q a w := by
  intro b k cs
  have hg : ∀ l rest, findLabel c l = some rest → gotoIn l (.inScope c :: k) = some (.code rest :: .inScope c :: k) := fun l rest hf => by simp [gotoIn, hf]
  have key : ∀ n l a w, μ l a w = n → J l a w → ∀ rest, findLabel c l = some rest → ∃ e a' w', Q e a' w' ∧ Arrives P (lone (b.at a (.code rest :: .inScope c :: k)) cs w) b k cs e a' w' := by
    intro n
    induction n using Nat.strongRecOn with
    | _ n ih =>
      intro l a w hn hJ rest hf
      obtain ⟨rest', hf', hp⟩ := pass l a w hJ
      rw [hf] at hf'
      obtain rfl := Option.some.inj hf'
      obtain ⟨e, a₁, w₁, hq, harr⟩ := hp b (.inScope c :: k) cs
      cases e with
      | normal => exact ⟨.normal, a₁, w₁, hq, Steps.trans harr (.one step_inScope)⟩
      | exit id => exact ⟨.exit id, a₁, w₁, hq, fun k' hk => harr k' (by simp [exitTo, hk])⟩
      | goto l' =>
        obtain ⟨hJ', hlt⟩ := hq
        obtain ⟨rest2, hf2, _⟩ := pass l' a₁ w₁ hJ'
        obtain ⟨e₂, a₂, w₂, hq₂, harr₂⟩ := ih _ (by omega) l' a₁ w₁ rfl hJ' rest2 hf2
        exact ⟨e₂, a₂, w₂, hq₂, .of_steps (harr _ (hg _ _ hf2)) harr₂⟩
      | ret => exact ⟨_, a₁, w₁, hq, harr⟩
      | panic ch => exact ⟨_, a₁, w₁, hq, harr⟩
      | outgrown => exact ⟨_, a₁, w₁, hq, harr⟩
  obtain ⟨e, a₁, w₁, hq, harr⟩ := first b (.inScope c :: k) cs
  cases e with
  | normal => exact ⟨.normal, a₁, w₁, hq, .head step_scope (Steps.trans harr (.one step_inScope))⟩
  | exit id => exact ⟨.exit id, a₁, w₁, hq, fun k' hk => .head step_scope (harr k' (by simp [exitTo, hk]))⟩
  | goto l' =>
    obtain ⟨rest2, hf2, _⟩ := pass l' a₁ w₁ hq
    obtain ⟨e₂, a₂, w₂, hq₂, harr₂⟩ := key _ l' a₁ w₁ rfl hq rest2 hf2
    exact ⟨e₂, a₂, w₂, hq₂, .of_steps (.head step_scope (harr _ (hg _ _ hf2))) harr₂⟩
  | ret => exact ⟨_, a₁, w₁, hq, .of_steps (.one step_scope) harr⟩
  | panic ch => exact ⟨_, a₁, w₁, hq, .of_steps (.one step_scope) harr⟩
  | outgrown => exact ⟨_, a₁, w₁, hq, .of_steps (.one step_scope) harr⟩

/-- As Q, but a goto goes on at its label, at most n times. -/
def lands (P : Program) (c : Code) (Q : Exit → Act → World → Prop) : Nat → Exit → Act → World → Prop
  | n, .goto l, a, w => match n with
    | 0 => False
    | n + 1 => ∃ rest, findLabel c l = some rest ∧ rest.wp P (lands P c Q n) a w
  | _, e, a, w => Q e a w

section
variable {P : Program} {c : Code} {Q : Exit → Act → World → Prop} {a : Act} {w : World} {n : Nat}
@[go_sem] theorem lands_normal : lands P c Q n .normal a w = Q .normal a w := by cases n <;> rfl
@[go_sem] theorem lands_exit (id : Nat) : lands P c Q n (.exit id) a w = Q (.exit id) a w := by cases n <;> rfl
@[go_sem] theorem lands_ret : lands P c Q n .ret a w = Q .ret a w := by cases n <;> rfl
@[go_sem] theorem lands_panic (ch : List PanicEntry) : lands P c Q n (.panic ch) a w = Q (.panic ch) a w := by cases n <;> rfl
theorem lands_goto (l : Nat) : lands P c Q (n + 1) (.goto l) a w = ∃ rest, findLabel c l = some rest ∧ rest.wp P (lands P c Q n) a w := rfl
end

theorem wp_scope_rounds {P : Program} {a : Act} {w : World} {Q : Exit → Act → World → Prop} {c : Code} (n : Nat) (first : c.wp P (lands P c Q n) a w) : (Code.scope c).wp P Q a w := by
  intro b k cs
  have hg : ∀ l rest, findLabel c l = some rest → gotoIn l (.inScope c :: k) = some (.code rest :: .inScope c :: k) := fun l rest hf => by simp [gotoIn, hf]
  have key : ∀ n (d : Code) a w, d.wp P (lands P c Q n) a w → ∃ e a' w', Q e a' w' ∧ Arrives P (lone (b.at a (.code d :: .inScope c :: k)) cs w) b k cs e a' w' := by
    intro n
    induction n with
    | zero =>
      intro d a w hd
      obtain ⟨e, a₁, w₁, hq, harr⟩ := hd b (.inScope c :: k) cs
      cases e with
      | normal => exact ⟨.normal, a₁, w₁, hq, Steps.trans harr (.one step_inScope)⟩
      | exit id => exact ⟨.exit id, a₁, w₁, hq, fun k' hk => harr k' (by simp [exitTo, hk])⟩
      | goto l' => exact absurd hq (by simp [lands])
      | ret => exact ⟨_, a₁, w₁, hq, harr⟩
      | panic ch => exact ⟨_, a₁, w₁, hq, harr⟩
      | outgrown => exact ⟨_, a₁, w₁, hq, harr⟩
    | succ n ih =>
      intro d a w hd
      obtain ⟨e, a₁, w₁, hq, harr⟩ := hd b (.inScope c :: k) cs
      cases e with
      | normal => exact ⟨.normal, a₁, w₁, hq, Steps.trans harr (.one step_inScope)⟩
      | exit id => exact ⟨.exit id, a₁, w₁, hq, fun k' hk => harr k' (by simp [exitTo, hk])⟩
      | goto l' =>
        obtain ⟨rest2, hf2, hp⟩ := hq
        obtain ⟨e₂, a₂, w₂, hq₂, harr₂⟩ := ih rest2 a₁ w₁ hp
        exact ⟨e₂, a₂, w₂, hq₂, .of_steps (harr _ (hg _ _ hf2)) harr₂⟩
      | ret => exact ⟨_, a₁, w₁, hq, harr⟩
      | panic ch => exact ⟨_, a₁, w₁, hq, harr⟩
      | outgrown => exact ⟨_, a₁, w₁, hq, harr⟩
  obtain ⟨e, a₁, w₁, hq, harr⟩ := key n c a w first
  exact ⟨e, a₁, w₁, hq, .of_steps (.one step_scope) harr⟩

end Go.Proofs.YtpalmobmabkadaaGreatDoor

namespace Go.Proofs.YtpalmobmabkadaaGreatDoor
set_option maxRecDepth 20000
open Go.RowKit

theorem rev_take (l : List UInt8) (j : Nat) (x : UInt8) (h : l[l.length - 1 - j]? = some x) (hj : j < l.length) : l.reverse.take (j + 1) = l.reverse.take j ++ [x] := by
  have h1 : j < l.reverse.length := by rw [List.length_reverse]; exact hj
  rw [List.take_succ_eq_append_getElem h1]
  congr 2
  rw [List.getElem_reverse]
  obtain ⟨_, h2⟩ := List.getElem?_eq_some_iff.1 h
  exact h2
/-- A piece of which k bytes are laid. -/
def laid (t : List UInt8) (k : Nat) : List UInt8 := t.take k ++ List.replicate (48 - k) 0
theorem laid_put (t : List UInt8) (k : Nat) (x : UInt8) (hk : k < 48) (h : t[k]? = some x) : (u8s (laid t k)).toArray.setIfInBounds k (u8 x) = (u8s (laid t (k + 1))).toArray := by
  obtain ⟨hl, rfl⟩ := List.getElem?_eq_some_iff.1 h
  apply Array.ext'
  rw [Array.toList_setIfInBounds]
  have e1 : (t.take k).length = k := by rw [List.length_take]; omega
  have e2 : laid t k = t.take k ++ 0 :: List.replicate (48 - (k + 1)) 0 := by
    rw [laid, show 48 - k = 48 - (k + 1) + 1 from by omega, List.replicate_succ]
  have e3 : laid t (k + 1) = t.take k ++ t[k] :: List.replicate (48 - (k + 1)) 0 := by
    rw [laid, List.take_succ_eq_append_getElem hl, List.append_assoc]
    rfl
  rw [e2, e3]
  simp only [u8s, List.map_append, List.map_cons]
  rw [List.set_append, if_neg (by rw [List.length_map, e1]; omega), List.length_map, e1, Nat.sub_self]
  rfl
theorem laid_zero (t : List UInt8) : laid t 0 = List.replicate 48 0 := by simp [laid]
theorem laid_end (x : List UInt8) (k i K : Nat) (hx : x.length ≤ k * 48) (hi : i < k) (hK : K = min 48 (x.length - 48 * i)) : laid (x.drop (48 * i)) K = ((x ++ List.replicate (k * 48 - x.length) 0).drop (48 * i)).take 48 := by
  rcases Nat.lt_or_ge (48 * i) x.length with h | h
  · rw [List.drop_append_of_le_length (by omega)]
    rcases Nat.lt_or_ge (x.length - 48 * i) 48 with h2 | h2
    · have hl : (x.drop (48 * i)).length = K := by rw [List.length_drop]; omega
      rw [laid, List.take_of_length_le (by omega), List.take_append, List.take_of_length_le (by omega), List.take_replicate, hl]
      congr 2
      omega
    · obtain rfl : K = 48 := by omega
      rw [List.take_append_of_le_length (by rw [List.length_drop]; omega), laid]
      simp
  · obtain rfl : K = 0 := by omega
    rw [laid_zero, List.drop_append, List.drop_of_length_le (by omega), List.nil_append, List.drop_replicate, List.take_replicate]
    congr 1
    omega

end Go.Proofs.YtpalmobmabkadaaGreatDoor

namespace Go.Proofs.YtpalmobmabkadaaGreatDoor
set_option maxRecDepth 20000
open Go.RowKit

def Z48 : List UInt8 := List.replicate 48 0
theorem ownsRow_whole {w : World} {base n g : Nat} {e : TypeId} {xs : List Value} (h : w.ownsRow base e 1 (.slice (some ⟨g, 0, none⟩) n n) n xs) : w.heap[g]? = some (.cells xs.toArray e (0, 0)) := by
  obtain ⟨hl, h2⟩ := h
  rcases h2 with ⟨hv, _⟩ | ⟨g', cap, cur, hv, _, hg, _, _, hcs, htake⟩
  · cases hv
  · cases hv
    rw [hg]
    have e : cur.toList = xs := by
      rw [← htake]
      exact (List.take_of_length_le (by rw [Array.length_toList]; omega)).symm
    rw [← e]
theorem row_rd {w : World} {g n : Nat} {e : TypeId} {xs : List UInt8} (h : w.heap[g]? = some (.cells (u8s xs).toArray e (0, 0))) (hn : xs.length = n) (hm : n ≤ maxLen) : Rd w w.heap.size 1 (some ⟨g, 0, none⟩) n n (u8s xs) :=
  ⟨Nat.le_refl _, hm, by rw [u8s_len]; omega, fun _ => ⟨g, 0, rfl, (Array.getElem?_eq_some_iff.1 h).1, fun j u hu => by
    rw [cell_of_row w g (0 + j) _ e (0, 0) h]
    simpa using hu⟩⟩
theorem laid_len (t : List UInt8) (k : Nat) (hk : k ≤ 48) (ht : k ≤ t.length) : (laid t k).length = 48 := by
  rw [laid, List.length_append, List.length_take, List.length_replicate]; omega

end Go.Proofs.YtpalmobmabkadaaGreatDoor

namespace Go.Proofs.YtpalmobmabkadaaGreatDoor
set_option maxRecDepth 20000
open Go.RowKit

theorem ref_num8 (t : List UInt8) (ht : t.length = 8) : ((refSt t 0 false).num 8).1 = unle t := by
  unfold refSt
  simp only [Bool.false_eq_true, if_false, List.drop_zero]
  rw [show St.num ⟨t, false⟩ 8 = (unle t, ⟨[], false⟩) from st_num t 8 (by omega) (by omega) ht]
/-- The greatest number at the ends of the sectors. -/
def mostOf (l : List UInt8) : Nat → Nat
  | 0 => 0
  | k + 1 => max (mostOf l k) (max (headsOf (sect l k)) (tailsOf (sect l k)))
theorem heads_take (l : List UInt8) (h : 64 ≤ l.length) : headsOf (l.take 64) = headsOf l ∧ tailsOf (l.take 64) = tailsOf l := by
  unfold headsOf tailsOf headOf tailOf
  rw [List.length_take, if_neg (by omega), if_neg (by omega), if_neg (by omega), if_neg (by omega), List.take_take, List.drop_take, List.take_take]
  exact ⟨rfl, rfl⟩
theorem mostOf_lt (l : List UInt8) (k : Nat) : mostOf l k < 18446744073709551616 := by
  induction k with
  | zero => exact (show (0 : Nat) < 18446744073709551616 by omega)
  | succ k ih =>
    have h1 := headsOf_lt (sect l k)
    have h2 := tailsOf_lt (sect l k)
    rw [mostOf]
    omega
end Go.Proofs.YtpalmobmabkadaaGreatDoor

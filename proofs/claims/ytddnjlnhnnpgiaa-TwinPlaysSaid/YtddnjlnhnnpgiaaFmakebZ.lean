/- frame.Make, and Sectors. frame.Make. -/
import Derived.Test.YtddnjlnhnnpgiaaFzeroZ
namespace Go.Proofs.Ytddnjlnhnnpgiaa
set_option maxRecDepth 20000
open Go.RowKit

theorem sectors_any (n : Int) (w : World) (hw : (Lit.int .i64 n).wf = true) : Calls Try.prog 69 #[.int .i64 n] w fun e w' => e = .returned (.int .i64 ((sectorsOf n : Nat) : Int)) ∧ w = w' := by
  have HW := Lib.hid hw
  clear hw
  by_cases h0 : n < 0
  · have e : sectorsOf n = 0 := by unfold sectorsOf; rw [if_pos (.inl h0)]
    rw [e]
    go_enter Try.func69, Try.ntmps69
    go_wp2
    go_ret
    exact ⟨rfl, rfl⟩
  · have d0 : decide (n < 0) = false := by simpa using h0
    by_cases h1 : 65536 < n
    · have e : sectorsOf n = 0 := by unfold sectorsOf; rw [if_pos (.inr h1)]
      rw [e]
      have d1 : decide (65536 < n) = true := by simpa using h1
      clear h0 h1
      go_enter Try.func69, Try.ntmps69
      go_wp2
      go_ret
      exact ⟨rfl, rfl⟩
    · have d1 : decide (65536 < n) = false := by simpa using h1
      have hS := sealedLen_any n w (by omega) (by omega)
      have e : ((sectorsOf n : Nat) : Int) = (n + 55) / 48 := by unfold sectorsOf; rw [if_neg (by omega)]; omega
      rw [e]
      have hn0 : 0 ≤ n := by omega
      have hn1 : n ≤ 70000 := by omega
      clear h0 h1 e
      go_enter Try.func69, Try.ntmps69
      go_wp2_with (go_at_call 83; refine hS.mono ?_; rintro e w1 ⟨rfl, rfl⟩)
      go_ret
      refine ⟨congrArg (fun z => Ending.returned (Value.int .i64 z)) ?_, rfl⟩
      omega
theorem rsectors_any (n : Int) (w : World) (hw : (Lit.int .i64 n).wf = true) : Calls Try.prog 54 #[.int .i64 n] w fun e w' => e = .returned (.int .i64 ((sectorsOf n : Nat) : Int)) ∧ w = w' := by
  have HW := Lib.hid hw
  clear hw
  by_cases h0 : n < 0
  · have e : sectorsOf n = 0 := by unfold sectorsOf; rw [if_pos (.inl h0)]
    rw [e]
    go_enter Try.func54, Try.ntmps54
    go_wp2
    go_ret
    exact ⟨rfl, rfl⟩
  · have d0 : decide (n < 0) = false := by simpa using h0
    by_cases h1 : 65536 < n
    · have e : sectorsOf n = 0 := by unfold sectorsOf; rw [if_pos (.inr h1)]
      rw [e]
      have d1 : decide (65536 < n) = true := by simpa using h1
      clear h0 h1
      go_enter Try.func54, Try.ntmps54
      go_wp2
      go_ret
      exact ⟨rfl, rfl⟩
    · have d1 : decide (65536 < n) = false := by simpa using h1
      have e : ((sectorsOf n : Nat) : Int) = (n + 55) / 48 := by unfold sectorsOf; rw [if_neg (by omega)]; omega
      rw [e]
      have hn0 : 0 ≤ n := by omega
      have hn1 : n ≤ 70000 := by omega
      clear h0 h1 e
      go_enter Try.func54, Try.ntmps54
      go_wp2
      go_ret
      refine ⟨congrArg (fun z => Ending.returned (Value.int .i64 z)) ?_, rfl⟩
      omega

theorem puts_one (k x : Nat) : [] ++ puts k [x] = le k x := by simp [puts]
/-- What a text's pieces hold, one behind the other. -/
def bodyOf (l : List UInt8) (k : Nat) : List UInt8 := sealOf (le 4 l.length ++ l) ++ List.replicate (k * 48 - (l.length + 8)) 0
theorem sealOf_len (l : List UInt8) : (sealOf l).length = l.length + 4 := by simp [sealOf, le_len]
theorem bodyOf_len (l : List UInt8) (k : Nat) (h : l.length + 8 ≤ k * 48) : (bodyOf l k).length = k * 48 := by
  rw [bodyOf, List.length_append, sealOf_len, List.length_append, le_len, List.length_replicate]
  omega

set_option maxRecDepth 8000 in
theorem filled_any (A : Option Addr) (n c k : Nat) (l : List UInt8) (w : World) (h : Rd w w.heap.size 1 A n c (u8s l)) (hn : n ≤ 70000) (hk : n + 8 ≤ k * 48) (hk2 : k ≤ 2000) :
    Calls Try.prog 78 #[.slice A n c, .int .i64 (k : Int)] w fun e w' => ∃ v, e = .returned v ∧ w'.ownsRow w.heap.size 5 1 v (k * 48) (u8s (bodyOf l k)) ∧ Below w.heap.size w w' := by
  have hln : l.length = n := by have := h.len; rwa [u8s_len] at this
  subst hln
  obtain ⟨q, hq⟩ : ∃ q, k * 48 = l.length + 8 + q := ⟨k * 48 - (l.length + 8), by omega⟩
  have hqi : (k : Int) * 48 = (l.length : Int) + 8 + (q : Int) := by omega
  have e : bodyOf l k = sealOf (le 4 l.length ++ l) ++ List.replicate q 0 := by unfold bodyOf; congr 2; omega
  rw [hq, e]
  have HQ := Lib.hid hq
  have HK := Lib.hid hk
  have hk3 : (k : Int) ≤ 2000 := by omega
  have HQI := Lib.hid hqi
  clear e hq hk hqi
  go_enter Try.func78, Try.ntmps78
  go_wp2_with (first
    | (go_at_call 77; refine (put_good none _ 0 0 1 1 [] [l.length] 4 _ Rd.nil_ (Rd.lit w #[.int .u64 (l.length : Int)] _ rfl (by unfold maxLen; omega) (by simp)) (by omega) (by omega) (by omega)).mono ?_; rintro e w1 ⟨v1, rfl, hown1, hb1⟩
       rw [puts_one] at hown1
       have hb01 : Below w.heap.size w w1 := ((Below.refl _ _).alloc (Nat.le_refl _) _).trans (hb1.mono (by simp)))
    | (at_builtin; refine wpL_app (m := l.length) (y := .slice A l.length c) rfl (.tmp 11) (.tmp 12) _ _ rfl E_u8 rfl rfl (ownsRow_low hown1 (base' := w.heap.size) (by simp)) ((h.below hb01).src Try.underlying38 (u8s_one l)) (by unfold maxLen; omega) (by omega) hb01.size ?_; intro v2 w2 hown2 hg2 hat2
       have hb02 := hb01.grown hg2 hb01.size (fun j e => Nat.le_trans (by simp) (hown1.lt j e).1)
       obtain ⟨A2, c2, rfl⟩ := ownsRow_form hown2
       have hrd2 := ownsRow_rd hown2
       rw [← u8s_app] at hrd2)
    | (go_at_call 93; refine (seal_any _ _ _ _ _ hrd2 (by omega)).mono ?_; rintro e w3 ⟨v3, rfl, hown3, hb3⟩; obtain ⟨A3, c3, rfl⟩ := ownsRow_form hown3; have hb03 := hb02.trans (hb3.mono hb02.size))
    | (refine wpL_app0 (k := q) (o := ⟨some 21, _, _, _, _, _⟩) rfl (.tmp 15) (.tmp 20) _ _ rfl E_u8 Try.underlying3 rfl rfl (by have := HQI.out; omega) hown3 (by omega) (by rw [zeros_u8]; exact u8s_one _) (by have := HQ.out; unfold maxLen; omega) (by have := HQ.out; omega) (hb3.size) ?_; intro v4 w4 hown4 hg4)
    | fail)
  go_ret
  rw [zeros_u8, ← u8s_app] at hown4
  refine ⟨_, rfl, ?_, hb03.grown hg4 hb03.size (fun j e => Nat.le_trans hb02.size (hown3.lt j e).1)⟩
  have := ownsRow_low hown4 (base' := w.heap.size) hb02.size
  rw [show 0 + 1 * 4 + l.length + 4 + q = l.length + 8 + q from by omega] at this
  exact this

end Go.Proofs.Ytddnjlnhnnpgiaa

namespace Go.Proofs.Ytddnjlnhnnpgiaa
set_option maxRecDepth 20000
open Go.RowKit

/-- One sector, and so many. -/
def headB (m : Nat) : List UInt8 := (le 8 m).reverse
def sec (m : Nat) (p : List UInt8) : List UInt8 := headB m ++ p ++ le 8 m
def secs (m : Nat) (body : List UInt8) : Nat → List UInt8
  | 0 => []
  | i + 1 => secs m body i ++ sec m ((body.drop (48 * i)).take 48)
def makeOf (m : Nat) (l : List UInt8) : List UInt8 := secs m (bodyOf l (sectorsOf l.length)) (sectorsOf l.length)
theorem le_rev8 (m : Nat) : le 8 (rev8 m) = headB m := by
  unfold rev8 headB
  have := le_unle (le 8 m).reverse
  rwa [List.length_reverse, le_len] at this
theorem secs_len (m : Nat) (body : List UInt8) (i : Nat) (h : 48 * i ≤ body.length) : (secs m body i).length = 64 * i := by
  induction i with
  | zero => rfl
  | succ i ih =>
    rw [secs, List.length_append, ih (by omega)]
    simp only [sec, headB, List.length_append, List.length_reverse, le_len, List.length_take, List.length_drop]
    omega
theorem sectorsOf_at (n : Nat) (h : n ≤ 65536) : sectorsOf (n : Int) = (n + 55) / 48 := by
  unfold sectorsOf
  rw [if_neg (by omega), Int.toNat_natCast]

/-- What the loop has made, and what its reader has left. -/
def MS (w : World) (g : Nat) (s : St) (v : Value) (n : Nat) (bs : List UInt8) (wr : World) : Prop :=
  wr.ownsRow w.heap.size 5 1 v n (u8s bs) ∧ (∀ q, v.ownBlock = some q → q ≠ g) ∧ Rdr wr g s ∧ Below w.heap.size w wr
theorem ownsRow_below {w w' : World} {base sz n : Nat} {e : TypeId} {v : Value} {xs : List Value} (h : w.ownsRow base e sz v n xs) (hb : Below w.heap.size w w') : w'.ownsRow base e sz v n xs := by
  obtain ⟨hl, h2⟩ := h
  rcases h2 with h2 | ⟨g, cap, cur, hv, hbg, hg, r⟩
  · exact ⟨hl, .inl h2⟩
  · exact ⟨hl, .inr ⟨g, cap, cur, hv, hbg, (hb.block g (Array.getElem?_eq_some_iff.1 hg).1).trans hg, r⟩⟩
theorem MS.app {w wr w' : World} {g n k : Nat} {s : St} {v v' : Value} {bs cs : List UInt8} (h : MS w g s v n bs wr) (hown : w'.ownsRow w.heap.size 5 1 v' (n + k) (u8s bs ++ u8s cs)) (hg : wr.grownBy w' v.ownBlock) (ha : v'.ownBlock = v.ownBlock ∨ v'.ownBlock = some wr.heap.size) : MS w g s v' (n + k) (bs ++ cs) w' := by
  obtain ⟨h1, h2, h3, h4⟩ := h
  refine ⟨by rw [u8s_app]; exact hown, fun q hq => ?_, h3.kept hg (fun e => h2 g e.symm rfl), h4.grown hg h4.size (fun q hq => (h1.lt q hq).1)⟩
  rcases ha with ha | ha
  · exact h2 q (ha ▸ hq)
  · rw [ha] at hq
    have := Option.some.inj hq
    have := h3.lt
    omega
theorem MS.turn {w wr w' : World} {g n : Nat} {s s' : St} {v : Value} {bs : List UInt8} (h : MS w g s v n bs wr) (hR : Rdr w' g s') (hg : wr.grownBy w' (some g)) (hB : w.heap.size ≤ g) : MS w g s' v n bs w' := by
  obtain ⟨h1, h2, h3, h4⟩ := h
  refine ⟨h1.kept hg ?_, h2, hR, h4.grown hg h4.size (fun q hq => by obtain rfl : g = q := Option.some.inj hq; exact hB)⟩
  cases hk : v.ownBlock with
  | none => exact .inl rfl
  | some q => exact .inr (fun e => h2 q hk (Option.some.inj e))

set_option maxHeartbeats 1000000 in
set_option maxRecDepth 8000 in
theorem make_good (m : Nat) (A : Option Addr) (n c : Nat) (l : List UInt8) (w : World) (h : Rd w w.heap.size 1 A n c (u8s l)) (hn : n ≤ 65536) (hm0 : 0 < m) (hm : m < 18446744073709551616) :
    Calls Try.prog 56 #[.int .u64 (m : Int), .slice A n c] w fun e w' => ∃ v, e = .returned (.tuple #[v, .int .i64 0]) ∧ w'.ownsRow w.heap.size 5 1 v (64 * sectorsOf l.length) (u8s (makeOf m l)) ∧ Below w.heap.size w w' := by
  have hln : l.length = n := by have := h.len; rwa [u8s_len] at this
  subst hln
  obtain ⟨k, hk⟩ : ∃ k, k = sectorsOf (l.length : Int) := ⟨_, rfl⟩
  have hk1 : l.length + 8 ≤ k * 48 := by rw [hk, sectorsOf_at _ hn]; omega
  have hk2 : k ≤ 2000 := by rw [hk, sectorsOf_at _ hn]; omega
  have hbl := bodyOf_len l k hk1
  have hS := fun w => sectors_any (l.length : Int) w (by simp [Lit.wf, IntKind.min, IntKind.max, IntKind.signed, IntKind.bits]; omega)
  rw [← hk] at hS
  unfold makeOf
  rw [← hk]
  have hR := rev_lt m
  have hle := le_rev8 m
  obtain ⟨r, hr⟩ : ∃ r, r = rev8 m := ⟨_, rfl⟩
  have hV := fun w => rev_any m w hm
  rw [← hr] at hle hR hV
  have HV := Lib.hid hV
  have HS := Lib.hid hS
  have HM := Lib.hid hm
  have HR := Lib.hid hR
  have HK := Lib.hid hk
  have HK1 := Lib.hid hk1
  have HBL := Lib.hid hbl
  have hki : (k : Int) ≤ 2000 := by omega
  have q0 : ((m : Int) == 0) = false := by simp; omega
  have d1 : decide ((65536 : Int) < (l.length : Int)) = false := by simp; omega
  have HN := Lib.hid hn
  have HLE := Lib.hid hle
  clear hV hS hm hR hk hk1 hbl hr hm0 hn hle
  go_enter Try.func56, Try.ntmps56
  go_wp2_with (first
    | (go_at_call 74; refine (HV.out _).mono ?_; rintro e w0 ⟨rfl, rfl⟩)
    | (go_at_call 77; first
        | (have hx1 := hown1; refine (put_good none _ 0 0 1 1 [] [m] 8 _ Rd.nil_ (Rd.lit w1 #[.int .u64 (m : Int)] _ rfl (by unfold maxLen; omega) (by simp)) (by omega) (by omega) (by omega)).mono ?_; rintro e w2 ⟨v2, rfl, hown2, hb2⟩
           rw [puts_one] at hown2
           have hb12 : Below w1.heap.size w1 w2 := ((Below.refl _ _).alloc (Nat.le_refl _) _).trans (hb2.mono (by simp))
           have hb02 := hb01.trans (hb12.mono hb01.size)
           obtain ⟨A1, c1, rfl⟩ := ownsRow_form hown1
           obtain ⟨A2, c2, rfl⟩ := ownsRow_form hown2
           have hh2 := ((ownsRow_rd hown1).below hb12).more hb12.size
           have ht2 := ownsRow_rd hown2)
        | (refine (put_good none _ 0 0 1 1 [] [r] 8 _ Rd.nil_ (Rd.lit w #[.int .u64 (r : Int)] _ rfl (by unfold maxLen; omega) (by simp)) (by omega) (by omega) (by omega)).mono ?_; rintro e w1 ⟨v1, rfl, hown1, hb1⟩
           rw [puts_one, HLE.out] at hown1
           have hb01 : Below w.heap.size w w1 := ((Below.refl _ _).alloc (Nat.le_refl _) _).trans (hb1.mono (by simp))))
    | (go_at_call 69; refine (HS.out _).mono ?_; rintro e w0 ⟨rfl, rfl⟩)
    | (at_make; refine wpL_make0 rfl _ _ _ rfl (base := w2.heap.size) E_u8 (k * 64) rfl rfl (by omega) (by omega) (by unfold maxLen; omega) (Nat.le_refl _) ?_; intro w3 hown3 hg3
       have hb23 : Below w2.heap.size w2 w3 := (Below.refl _ _).grown hg3 (Nat.le_refl _) (fun j e => by cases e)
       have hb03 := hb02.trans (hb23.mono hb02.size)
       have hz23 := hb23.size)
    | (go_at_call 78; refine (filled_any _ _ _ k l _ ((h.below hb03).more hb03.size) (by have := HN.out; omega) HK1.out (by omega)).mono ?_; rintro e w4 ⟨v4, rfl, hown4, hb4⟩; obtain ⟨A4, c4, rfl⟩ := ownsRow_form hown4; have hrd4 := ownsRow_rd hown4)
    | (go_at_call 72; refine (read_any _ _ _ _ _ hrd4 (by omega)).mono ?_; rintro e w5 ⟨g, rfl, hg, hR5, hb5⟩)
    | fail)
  have hgB : w2.heap.size ≤ g := Nat.le_trans hz23 (Nat.le_trans hb4.size hg)
  have hlt3 := (hown3.lt w2.heap.size rfl).2
  have hM0 : MS w2 g ⟨bodyOf l k, false⟩ (.slice (some ⟨w2.heap.size, 0, none⟩) 0 (k * 64)) 0 [] w5 := by
    refine ⟨ownsRow_below (ownsRow_below hown3 hb4) hb5, fun q hq => ?_, hR5, hb23.trans ((hb4.mono hz23).trans (hb5.mono (Nat.le_trans hz23 hb4.size)))⟩
    have := hb4.size
    obtain rfl : w2.heap.size = q := Option.some.inj hq
    omega
  have hk48 := HBL.out
  obtain ⟨body, hbd⟩ : ∃ b, b = bodyOf l k := ⟨_, rfl⟩
  rw [← hbd] at hM0 hk48
  have HBD := Lib.hid hbd
  clear hbd
  have HB := Lib.hid hk48
  clear hk48
  go_loopw [9, 35] (fun vr ir wr => ∃ i : Nat, i ≤ k ∧ ir = .int .i64 (i : Int) ∧ MS w2 g ⟨body.drop (48 * i), false⟩ vr (64 * i) (secs m body i) wr) (fun _ ir _ => k - (intOf ir).toNat)
  case atStart => exact ⟨0, Nat.zero_le _, rfl, hM0⟩
  case round =>
    obtain ⟨i, hi, rfl, hMS⟩ := hrel
    by_cases hik : i < k
    · have hbr := hMS.2.2.2
      have htk : St.next ⟨body.drop (48 * i), false⟩ 48 = ((body.drop (48 * i)).take 48, ⟨body.drop (48 * (i + 1)), false⟩) := by
        unfold St.next
        rw [if_pos (by have := HB.out; simp only [List.length_drop]; omega)]
        simp only [List.drop_drop]
        rfl
      have hpl : ((body.drop (48 * i)).take 48).length = 48 := by have := HB.out; rw [List.length_take, List.length_drop]; omega
      have hTake := fun (w : World) (hR : Rdr w g ⟨body.drop (48 * i), false⟩) => take_any g _ 48 w hR
      rw [htk] at hTake
      dsimp only at hTake
      rw [hpl] at hTake
      have HT := Lib.hid hTake
      have hs1 : secs m body (i + 1) = secs m body i ++ headB m ++ (body.drop (48 * i)).take 48 ++ le 8 m := by
        simp only [secs, sec, List.append_assoc]
      have HS1 := Lib.hid hs1
      clear htk hpl hTake hs1
      generalize (body.drop (48 * i)).take 48 = pc at *
      go_wp2_with (first
        | (at_builtin; first
            | (have hx3 := hMS3; refine wpL_app (m := 8) (y := .slice A2 8 c2) rfl (.tmp 44) (.tmp 45) _ _ rfl E_u8 rfl rfl hMS3.1 ((ht2.below hMS3.2.2.2).src Try.underlying38 (u8s_one _)) (by unfold maxLen; omega) (by omega) hMS3.2.2.2.size ?_; intro v8 w8 hown8 hg8 hat8; have hMS4 := hMS3.app hown8 hg8 hat8)
            | (have hx2 := hMS2; refine wpL_app (m := 48) (y := .slice A7 48 c7) rfl (.tmp 40) (.tmp 42) _ _ rfl E_u8 rfl rfl hMS2.1 (hrd7.src Try.underlying38 (u8s_one _)) (by unfold maxLen; omega) (by omega) hMS2.2.2.2.size ?_; intro v7 w7' hown7' hg7' hat7; have hMS3 := hMS2.app hown7' hg7' hat7)
            | (refine wpL_app (m := 8) (y := .slice A1 8 c1) rfl (.tmp 37) (.tmp 38) _ _ rfl E_u8 rfl rfl hMS.1 ((hh2.below hbr).src Try.underlying38 (u8s_one _)) (by unfold maxLen; omega) (by omega) hbr.size ?_; intro v6 w6 hown6 hg6 hat6; have hMS1 := hMS.app hown6 hg6 hat6))
        | (go_at_call 79; refine (HT.out _ hMS1.2.2.1).mono ?_; rintro e w7 ⟨v7, rfl, hown7, hR7, hg7⟩; have hMS2 := hMS1.turn hR7 hg7 hgB; obtain ⟨A7, c7, rfl⟩ := ownsRow_form hown7; have hrd7 := ownsRow_rd hown7)
        | fail)
      go_roundw
      case rel =>
        refine ⟨i + 1, by omega, by go_num, ?_⟩
        rw [HS1.out, show 64 * (i + 1) = 64 * i + 8 + 48 + 8 from by omega]
        exact hMS4
      case measure => simp [intOf]; omega
    · obtain rfl : i = k := by omega
      go_wp2
      go_ret2
      rw [HBD.out] at hMS
      exact ⟨u9, rfl, ownsRow_low hMS.1 hb02.size, hb02.trans (hMS.2.2.2.mono hb02.size)⟩

theorem make_zero (A : Option Addr) (n c : Nat) (w : World) :
    Calls Try.prog 56 #[.int .u64 0, .slice A n c] w fun e w' => e = .returned (.tuple #[.slice none 0 0, .int .i64 2]) ∧ w = w' := by
  go_enter Try.func56, Try.ntmps56
  go_wp2
  go_ret2
  exact ⟨rfl, rfl⟩
theorem make_long (m : Nat) (A : Option Addr) (n c : Nat) (w : World) (hm : 0 < m) (hn : 65536 < n) :
    Calls Try.prog 56 #[.int .u64 (m : Int), .slice A n c] w fun e w' => e = .returned (.tuple #[.slice none 0 0, .int .i64 11]) ∧ w = w' := by
  have q0 : ((m : Int) == 0) = false := by simp; omega
  have d1 : decide ((65536 : Int) < (n : Int)) = true := by simp; omega
  clear hm hn
  go_enter Try.func56, Try.ntmps56
  go_wp2
  go_ret2
  exact ⟨rfl, rfl⟩

end Go.Proofs.Ytddnjlnhnnpgiaa

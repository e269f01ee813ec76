/- math/bits.Len64, and names for worlds behind boxes. Rows that a call does not reach. frame.Make, and Sectors. frame.Make. frame.joined: the pieces of so many sectors. frame.joined. -/
import Derived.Test.YtpalmobmabkadaaGreatDoorSegsZM
import Derived.Lib.BitFns
import Derived.Lib.ItoaNum
import Derived.Laws.Bits64b
import Derived.Lib.Walk
import Derived.Lib.Small
import Derived.Test.YtpalmobmabkadaaGreatDoorFzeroZM
import Derived.Test.YtpalmobmabkadaaGreatDoorFchunkZM
namespace Go.Proofs.YtpalmobmabkadaaGreatDoor
set_option maxRecDepth 20000
open Go.RowKit

section
variable {N : Nat} {W wd : World}
theorem kept (h : Below N W wd) {b o : Nat} {u : Value} (hc : W.cell? ⟨b, o, none⟩ = some u) (hb : b < N := by first | omega | (simp <;> omega)) : wd.cell? ⟨b, o, none⟩ = some u := (h.cell (p := ⟨b, o, none⟩) hb).trans hc
theorem row_here (w : World) (o : Obj) {n : Nat} (hn : n = w.heap.size) : (w.alloc o).heap[n]? = some o := by subst hn; exact heap_alloc_new w o
theorem row_old {w : World} {o' : Obj} (o : Obj) {n : Nat} (h : w.heap[n]? = some o') : (w.alloc o).heap[n]? = some o' := (heap_alloc_old w o (Array.getElem?_eq_some_iff.1 h).1).trans h
theorem row_new {w Y : World} {o o' : Obj} {b : Nat} (hY : Y = w.alloc o) (h : w.heap[b]? = some o') : Y.heap[b]? = some o' := by rw [hY]; exact row_old o h
theorem cellz (h : Below N W wd) {b j : Nat} {cs : Array Value} {t : TypeId} {fr : Nat × Nat} {u : Value} (hr : W.heap[b]? = some (.cells cs t fr)) (hj : cs[j]? = some u) (hb : b < N := by first | omega | (simp <;> omega)) : wd.cell? ⟨b, j, none⟩ = some u := by
  rw [cell_of_row wd b j cs t fr ((h.block b hb).trans hr)]
  exact hj
theorem frozenz (h : Below N W wd) {b : Nat} (j : Nat) {cs : Array Value} {t : TypeId} (hr : W.heap[b]? = some (.cells cs t (0, 0))) (hb : b < N := by first | omega | (simp <;> omega)) : wd.frozen? ⟨b, j, none⟩ = false :=
  frozen_of_row wd b j cs t ((h.block b hb).trans hr)
theorem unalloc {o : Obj} (h : Below N (W.alloc o) wd) (hN : N ≤ W.heap.size) : Below N W wd := ((Below.refl W.heap.size W).alloc (Nat.le_refl _) o).mono hN |>.trans h
end
theorem unal {w w' : World} {o : Obj} (h : Below (w.alloc o).heap.size (w.alloc o) w') : Below w.heap.size w w' := unalloc (h.mono (by simp)) (Nat.le_refl _)
theorem cell_old {w : World} {b j : Nat} {u : Value} (o : Obj) (h : w.cell? ⟨b, j, none⟩ = some u) : (w.alloc o).cell? ⟨b, j, none⟩ = some u :=
  (((Below.refl w.heap.size w).alloc (Nat.le_refl _) o).cell (p := ⟨b, j, none⟩) (World.block_lt_of_cell? w _ h)).trans h
/-- Two and three new blocks. -/
theorem boxes1 (w : World) (p : Array Value) (s : TypeId) : ∃ W, W = w.alloc (.cells p s) ∧ W.heap.size = w.heap.size + 1 ∧ W.heap[w.heap.size]? = some (.cells p s (0, 0)) ∧ Below w.heap.size w W :=
  ⟨_, rfl, by simp, (by first | exact row_here _ _ (by simp) | exact row_old _ (row_here _ _ (by simp)) | exact row_old _ (row_old _ (row_here _ _ (by simp))) | exact row_old _ (row_old _ (row_old _ (row_here _ _ (by simp))))), (Below.refl _ _).alloc (Nat.le_refl _) _⟩
theorem boxes2 (w : World) (p q : Array Value) (s t : TypeId) : ∃ W, W = (w.alloc (.cells p s)).alloc (.cells q t) ∧ W.heap.size = w.heap.size + 2 ∧ W.heap[w.heap.size]? = some (.cells p s (0, 0)) ∧ W.heap[w.heap.size + 1]? = some (.cells q t (0, 0)) ∧ Below w.heap.size w W :=
  ⟨_, rfl, by simp, (by first | exact row_here _ _ (by simp) | exact row_old _ (row_here _ _ (by simp)) | exact row_old _ (row_old _ (row_here _ _ (by simp))) | exact row_old _ (row_old _ (row_old _ (row_here _ _ (by simp))))), (by first | exact row_here _ _ (by simp) | exact row_old _ (row_here _ _ (by simp)) | exact row_old _ (row_old _ (row_here _ _ (by simp))) | exact row_old _ (row_old _ (row_old _ (row_here _ _ (by simp))))), ((Below.refl _ _).alloc (Nat.le_refl _) _).alloc (by simp) _⟩
theorem boxes3 (w : World) (p q r : Array Value) (s t u : TypeId) : ∃ W, W = ((w.alloc (.cells p s)).alloc (.cells q t)).alloc (.cells r u) ∧ W.heap.size = w.heap.size + 3 ∧ W.heap[w.heap.size]? = some (.cells p s (0, 0)) ∧ W.heap[w.heap.size + 1]? = some (.cells q t (0, 0)) ∧ W.heap[w.heap.size + 2]? = some (.cells r u (0, 0)) ∧ Below w.heap.size w W :=
  ⟨_, rfl, by simp, (by first | exact row_here _ _ (by simp) | exact row_old _ (row_here _ _ (by simp)) | exact row_old _ (row_old _ (row_here _ _ (by simp))) | exact row_old _ (row_old _ (row_old _ (row_here _ _ (by simp))))), (by first | exact row_here _ _ (by simp) | exact row_old _ (row_here _ _ (by simp)) | exact row_old _ (row_old _ (row_here _ _ (by simp))) | exact row_old _ (row_old _ (row_old _ (row_here _ _ (by simp))))), (by first | exact row_here _ _ (by simp) | exact row_old _ (row_here _ _ (by simp)) | exact row_old _ (row_old _ (row_here _ _ (by simp))) | exact row_old _ (row_old _ (row_old _ (row_here _ _ (by simp))))), (((Below.refl _ _).alloc (Nat.le_refl _) _).alloc (by simp) _).alloc (by simp; omega) _⟩
theorem ret_u64 {a b : Int} (h : a = b) : Ending.returned (.int .u64 a) = .returned (.int .u64 b) := by rw [h]
theorem ret_bool {a b : Bool} (h : a = b) : Ending.returned (.bool a) = .returned (.bool b) := by rw [h]
theorem u64w (x : Int) (h : 0 ≤ x) (h2 : x < 18446744073709551616) : IntKind.u64.wrap x = x := by
  simp only [IntKind.wrap_u64]; omega


end Go.Proofs.YtpalmobmabkadaaGreatDoor

namespace Go.Proofs.YtpalmobmabkadaaGreatDoor
set_option maxRecDepth 20000
open Go.RowKit
theorem row_far {w w' : World} {row : Option Nat} {b : Nat} {o : Obj} (h : w.heap[b]? = some o) (hg : w.grownBy w' row) (hr : some b ≠ row) : w'.heap[b]? = some o :=
  (hg.block b (Array.getElem?_eq_some_iff.1 h).1 hr).trans h
theorem below_grown {w w' : World} (h : Below w.heap.size w w') (row : Option Nat) : w.grownBy w' row := ⟨h.os, h.tape, h.output, h.size, fun i hi _ => h.block i hi⟩
theorem row_below {w w' : World} {b : Nat} {o : Obj} (h : w.heap[b]? = some o) (hb : Below w.heap.size w w') : w'.heap[b]? = some o :=
  (hb.block b (Array.getElem?_eq_some_iff.1 h).1).trans h
end Go.Proofs.YtpalmobmabkadaaGreatDoor

namespace Go.Proofs.YtpalmobmabkadaaGreatDoor
set_option maxRecDepth 20000
open Go.RowKit

theorem sectors_any (n : Int) (w : World) (hw : (Lit.int .i64 n).wf = true) : Calls Tryz.prog 72 #[.int .i64 n] w fun e w' => e = .returned (.int .i64 ((sectorsOf n : Nat) : Int)) ∧ w = w' := by
  have HW := Lib.hid hw
  clear hw
  by_cases h0 : n < 0
  · have e : sectorsOf n = 0 := by unfold sectorsOf; rw [if_pos (.inl h0)]
    rw [e]
    go_enter Tryz.func72, Tryz.ntmps72
    go_wp2
    go_ret
    exact ⟨rfl, rfl⟩
  · have d0 : decide (n < 0) = false := by simpa using h0
    by_cases h1 : 65536 < n
    · have e : sectorsOf n = 0 := by unfold sectorsOf; rw [if_pos (.inr h1)]
      rw [e]
      have d1 : decide (65536 < n) = true := by simpa using h1
      clear h0 h1
      go_enter Tryz.func72, Tryz.ntmps72
      go_wp2
      go_ret
      exact ⟨rfl, rfl⟩
    · have d1 : decide (65536 < n) = false := by simpa using h1
      have hS := sealedLen_any n w (by omega) (by omega)
      have e : ((sectorsOf n : Nat) : Int) = (n + 55) / 48 := by unfold sectorsOf; rw [if_neg (by omega)]; omega
      rw [e]
      have hn0 : 0 ≤ n := by omega
      have hn1 : n ≤ 70000 := by omega
      clear h0 h1 e
      go_enter Tryz.func72, Tryz.ntmps72
      go_wp2_with (go_at_call 109; refine hS.mono ?_; rintro e w1 ⟨rfl, rfl⟩)
      go_ret
      refine ⟨congrArg (fun z => Ending.returned (Value.int .i64 z)) ?_, rfl⟩
      omega
theorem puts_one (k x : Nat) : [] ++ puts k [x] = le k x := by simp [puts]
/-- What a text's pieces hold, one behind the other. -/
def bodyOf (l : List UInt8) (k : Nat) : List UInt8 := sealOf (le 4 l.length ++ l) ++ List.replicate (k * 48 - (l.length + 8)) 0
theorem sealOf_len (l : List UInt8) : (sealOf l).length = l.length + 4 := by simp [sealOf, le_len]
theorem bodyOf_len (l : List UInt8) (k : Nat) (h : l.length + 8 ≤ k * 48) : (bodyOf l k).length = k * 48 := by
  rw [bodyOf, List.length_append, sealOf_len, List.length_append, le_len, List.length_replicate]
  omega

set_option maxRecDepth 8000 in
theorem filled_any (A : Option Addr) (n c k : Nat) (l : List UInt8) (w : World) (h : Rd w w.heap.size 1 A n c (u8s l)) (hn : n ≤ 70000) (hk : n + 8 ≤ k * 48) (hk2 : k ≤ 2000) :
    Calls Tryz.prog 138 #[.slice A n c, .int .i64 (k : Int)] w fun e w' => ∃ v, e = .returned v ∧ w'.ownsRow w.heap.size 5 1 v (k * 48) (u8s (bodyOf l k)) ∧ Below w.heap.size w w' := by
  have hln : l.length = n := by have := h.len; rwa [u8s_len] at this
  subst hln
  obtain ⟨q, hq⟩ : ∃ q, k * 48 = l.length + 8 + q := ⟨k * 48 - (l.length + 8), by omega⟩
  have hqi : (k : Int) * 48 = (l.length : Int) + 8 + (q : Int) := by omega
  have e : bodyOf l k = sealOf (le 4 l.length ++ l) ++ List.replicate q 0 := by unfold bodyOf; congr 2; omega
  rw [hq, e]
  have HQ := Lib.hid hq
  have HK := Lib.hid hk
  have hk3 : (k : Int) ≤ 2000 := by omega
  have HQI := Lib.hid hqi
  clear e hq hk hqi
  go_enter Tryz.func138, Tryz.ntmps138
  go_wp2_with (first
    | (go_at_call 101; refine (put_good none _ 0 0 1 1 [] [l.length] 4 _ Rd.nil_ (Rd.lit w #[.int .u64 (l.length : Int)] _ rfl (by unfold maxLen; omega) (by simp)) (by omega) (by omega) (by omega)).mono ?_; rintro e w1 ⟨v1, rfl, hown1, hb1⟩
       rw [puts_one] at hown1
       have hb01 : Below w.heap.size w w1 := ((Below.refl _ _).alloc (Nat.le_refl _) _).trans (hb1.mono (by simp)))
    | (at_builtin; refine wpL_app (m := l.length) (y := .slice A l.length c) rfl (.tmp 11) (.tmp 12) _ _ rfl E_u8 rfl rfl (ownsRow_low hown1 (base' := w.heap.size) (by simp)) ((h.below hb01).src Tryz.underlying86 (u8s_one l)) (by unfold maxLen; omega) (by omega) hb01.size ?_; intro v2 w2 hown2 hg2 hat2
       have hb02 := hb01.grown hg2 hb01.size (fun j e => Nat.le_trans (by simp) (hown1.lt j e).1)
       obtain ⟨A2, c2, rfl⟩ := ownsRow_form hown2
       have hrd2 := ownsRow_rd hown2
       rw [← u8s_app] at hrd2)
    | (go_at_call 146; refine (seal_any _ _ _ _ _ hrd2 (by omega)).mono ?_; rintro e w3 ⟨v3, rfl, hown3, hb3⟩; obtain ⟨A3, c3, rfl⟩ := ownsRow_form hown3; have hb03 := hb02.trans (hb3.mono hb02.size))
    | (refine wpL_app0 (k := q) (o := ⟨some 21, _, _, _, _, _⟩) rfl (.tmp 15) (.tmp 20) _ _ rfl E_u8 Tryz.underlying3 rfl rfl (by have := HQI.out; omega) hown3 (by omega) (by rw [zeros_u8]; exact u8s_one _) (by have := HQ.out; unfold maxLen; omega) (by have := HQ.out; omega) (hb3.size) ?_; intro v4 w4 hown4 hg4)
    | fail)
  go_ret
  rw [zeros_u8, ← u8s_app] at hown4
  refine ⟨_, rfl, ?_, hb03.grown hg4 hb03.size (fun j e => Nat.le_trans hb02.size (hown3.lt j e).1)⟩
  have := ownsRow_low hown4 (base' := w.heap.size) hb02.size
  rw [show 0 + 1 * 4 + l.length + 4 + q = l.length + 8 + q from by omega] at this
  exact this

end Go.Proofs.YtpalmobmabkadaaGreatDoor

namespace Go.Proofs.YtpalmobmabkadaaGreatDoor
set_option maxRecDepth 20000
open Go.RowKit

/-- One sector, and so many. -/
def headB (m : Nat) : List UInt8 := (le 8 m).reverse
def sec (m : Nat) (p : List UInt8) : List UInt8 := headB m ++ p ++ le 8 m
def secs (m : Nat) (body : List UInt8) : Nat → List UInt8
  | 0 => []
  | i + 1 => secs m body i ++ sec m ((body.drop (48 * i)).take 48)
def makeOf (m : Nat) (l : List UInt8) : List UInt8 := secs m (bodyOf l (sectorsOf l.length)) (sectorsOf l.length)
theorem le_rev8 (m : Nat) : le 8 (rev8 m) = headB m := by
  unfold rev8 headB
  have := le_unle (le 8 m).reverse
  rwa [List.length_reverse, le_len] at this
theorem secs_len (m : Nat) (body : List UInt8) (i : Nat) (h : 48 * i ≤ body.length) : (secs m body i).length = 64 * i := by
  induction i with
  | zero => rfl
  | succ i ih =>
    rw [secs, List.length_append, ih (by omega)]
    simp only [sec, headB, List.length_append, List.length_reverse, le_len, List.length_take, List.length_drop]
    omega
theorem sectorsOf_at (n : Nat) (h : n ≤ 65536) : sectorsOf (n : Int) = (n + 55) / 48 := by
  unfold sectorsOf
  rw [if_neg (by omega), Int.toNat_natCast]

/-- What the loop has made, and what its reader has left. -/
def MS (w : World) (g : Nat) (s : St) (v : Value) (n : Nat) (bs : List UInt8) (wr : World) : Prop :=
  wr.ownsRow w.heap.size 5 1 v n (u8s bs) ∧ (∀ q, v.ownBlock = some q → q ≠ g) ∧ Rdr wr g s ∧ Below w.heap.size w wr
theorem ownsRow_below {w w' : World} {base sz n : Nat} {e : TypeId} {v : Value} {xs : List Value} (h : w.ownsRow base e sz v n xs) (hb : Below w.heap.size w w') : w'.ownsRow base e sz v n xs := by
  obtain ⟨hl, h2⟩ := h
  rcases h2 with h2 | ⟨g, cap, cur, hv, hbg, hg, r⟩
  · exact ⟨hl, .inl h2⟩
  · exact ⟨hl, .inr ⟨g, cap, cur, hv, hbg, (hb.block g (Array.getElem?_eq_some_iff.1 hg).1).trans hg, r⟩⟩
theorem MS.app {w wr w' : World} {g n k : Nat} {s : St} {v v' : Value} {bs cs : List UInt8} (h : MS w g s v n bs wr) (hown : w'.ownsRow w.heap.size 5 1 v' (n + k) (u8s bs ++ u8s cs)) (hg : wr.grownBy w' v.ownBlock) (ha : v'.ownBlock = v.ownBlock ∨ v'.ownBlock = some wr.heap.size) : MS w g s v' (n + k) (bs ++ cs) w' := by
  obtain ⟨h1, h2, h3, h4⟩ := h
  refine ⟨by rw [u8s_app]; exact hown, fun q hq => ?_, h3.kept hg (fun e => h2 g e.symm rfl), h4.grown hg h4.size (fun q hq => (h1.lt q hq).1)⟩
  rcases ha with ha | ha
  · exact h2 q (ha ▸ hq)
  · rw [ha] at hq
    have := Option.some.inj hq
    have := h3.lt
    omega
theorem MS.turn {w wr w' : World} {g n : Nat} {s s' : St} {v : Value} {bs : List UInt8} (h : MS w g s v n bs wr) (hR : Rdr w' g s') (hg : wr.grownBy w' (some g)) (hB : w.heap.size ≤ g) : MS w g s' v n bs w' := by
  obtain ⟨h1, h2, h3, h4⟩ := h
  refine ⟨h1.kept hg ?_, h2, hR, h4.grown hg h4.size (fun q hq => by obtain rfl : g = q := Option.some.inj hq; exact hB)⟩
  cases hk : v.ownBlock with
  | none => exact .inl rfl
  | some q => exact .inr (fun e => h2 q hk (Option.some.inj e))

set_option maxHeartbeats 1000000 in
set_option maxRecDepth 8000 in
theorem make_good (m : Nat) (A : Option Addr) (n c : Nat) (l : List UInt8) (w : World) (h : Rd w w.heap.size 1 A n c (u8s l)) (hn : n ≤ 65536) (hm0 : 0 < m) (hm : m < 18446744073709551616) :
    Calls Tryz.prog 124 #[.int .u64 (m : Int), .slice A n c] w fun e w' => ∃ v, e = .returned (.tuple #[v, .int .i64 0]) ∧ w'.ownsRow w.heap.size 5 1 v (64 * sectorsOf l.length) (u8s (makeOf m l)) ∧ Below w.heap.size w w' := by
  have hln : l.length = n := by have := h.len; rwa [u8s_len] at this
  subst hln
  obtain ⟨k, hk⟩ : ∃ k, k = sectorsOf (l.length : Int) := ⟨_, rfl⟩
  have hk1 : l.length + 8 ≤ k * 48 := by rw [hk, sectorsOf_at _ hn]; omega
  have hk2 : k ≤ 2000 := by rw [hk, sectorsOf_at _ hn]; omega
  have hbl := bodyOf_len l k hk1
  have hS := fun w => sectors_any (l.length : Int) w (by simp [Lit.wf, IntKind.min, IntKind.max, IntKind.signed, IntKind.bits]; omega)
  rw [← hk] at hS
  unfold makeOf
  rw [← hk]
  have hR := rev_lt m
  have hle := le_rev8 m
  obtain ⟨r, hr⟩ : ∃ r, r = rev8 m := ⟨_, rfl⟩
  have hV := fun w => rev_any m w hm
  rw [← hr] at hle hR hV
  have HV := Lib.hid hV
  have HS := Lib.hid hS
  have HM := Lib.hid hm
  have HR := Lib.hid hR
  have HK := Lib.hid hk
  have HK1 := Lib.hid hk1
  have HBL := Lib.hid hbl
  have hki : (k : Int) ≤ 2000 := by omega
  have q0 : ((m : Int) == 0) = false := by simp; omega
  have d1 : decide ((65536 : Int) < (l.length : Int)) = false := by simp; omega
  have HN := Lib.hid hn
  have HLE := Lib.hid hle
  clear hV hS hm hR hk hk1 hbl hr hm0 hn hle
  go_enter Tryz.func124, Tryz.ntmps124
  go_wp2_with (first
    | (go_at_call 131; refine (HV.out _).mono ?_; rintro e w0 ⟨rfl, rfl⟩)
    | (go_at_call 101; first
        | (have hx1 := hown1; refine (put_good none _ 0 0 1 1 [] [m] 8 _ Rd.nil_ (Rd.lit w1 #[.int .u64 (m : Int)] _ rfl (by unfold maxLen; omega) (by simp)) (by omega) (by omega) (by omega)).mono ?_; rintro e w2 ⟨v2, rfl, hown2, hb2⟩
           rw [puts_one] at hown2
           have hb12 : Below w1.heap.size w1 w2 := ((Below.refl _ _).alloc (Nat.le_refl _) _).trans (hb2.mono (by simp))
           have hb02 := hb01.trans (hb12.mono hb01.size)
           obtain ⟨A1, c1, rfl⟩ := ownsRow_form hown1
           obtain ⟨A2, c2, rfl⟩ := ownsRow_form hown2
           have hh2 := ((ownsRow_rd hown1).below hb12).more hb12.size
           have ht2 := ownsRow_rd hown2)
        | (refine (put_good none _ 0 0 1 1 [] [r] 8 _ Rd.nil_ (Rd.lit w #[.int .u64 (r : Int)] _ rfl (by unfold maxLen; omega) (by simp)) (by omega) (by omega) (by omega)).mono ?_; rintro e w1 ⟨v1, rfl, hown1, hb1⟩
           rw [puts_one, HLE.out] at hown1
           have hb01 : Below w.heap.size w w1 := ((Below.refl _ _).alloc (Nat.le_refl _) _).trans (hb1.mono (by simp))))
    | (go_at_call 72; refine (HS.out _).mono ?_; rintro e w0 ⟨rfl, rfl⟩)
    | (at_make; refine wpL_make0 rfl _ _ _ rfl (base := w2.heap.size) E_u8 (k * 64) rfl rfl (by omega) (by omega) (by unfold maxLen; omega) (Nat.le_refl _) ?_; intro w3 hown3 hg3
       have hb23 : Below w2.heap.size w2 w3 := (Below.refl _ _).grown hg3 (Nat.le_refl _) (fun j e => by cases e)
       have hb03 := hb02.trans (hb23.mono hb02.size)
       have hz23 := hb23.size)
    | (go_at_call 138; refine (filled_any _ _ _ k l _ ((h.below hb03).more hb03.size) (by have := HN.out; omega) HK1.out (by omega)).mono ?_; rintro e w4 ⟨v4, rfl, hown4, hb4⟩; obtain ⟨A4, c4, rfl⟩ := ownsRow_form hown4; have hrd4 := ownsRow_rd hown4)
    | (go_at_call 74; refine (read_any _ _ _ _ _ hrd4 (by omega)).mono ?_; rintro e w5 ⟨g, rfl, hg, hR5, hb5⟩)
    | fail)
  have hgB : w2.heap.size ≤ g := Nat.le_trans hz23 (Nat.le_trans hb4.size hg)
  have hlt3 := (hown3.lt w2.heap.size rfl).2
  have hM0 : MS w2 g ⟨bodyOf l k, false⟩ (.slice (some ⟨w2.heap.size, 0, none⟩) 0 (k * 64)) 0 [] w5 := by
    refine ⟨ownsRow_below (ownsRow_below hown3 hb4) hb5, fun q hq => ?_, hR5, hb23.trans ((hb4.mono hz23).trans (hb5.mono (Nat.le_trans hz23 hb4.size)))⟩
    have := hb4.size
    obtain rfl : w2.heap.size = q := Option.some.inj hq
    omega
  have hk48 := HBL.out
  obtain ⟨body, hbd⟩ : ∃ b, b = bodyOf l k := ⟨_, rfl⟩
  rw [← hbd] at hM0 hk48
  have HBD := Lib.hid hbd
  clear hbd
  have HB := Lib.hid hk48
  clear hk48
  go_loopw [9, 35] (fun vr ir wr => ∃ i : Nat, i ≤ k ∧ ir = .int .i64 (i : Int) ∧ MS w2 g ⟨body.drop (48 * i), false⟩ vr (64 * i) (secs m body i) wr) (fun _ ir _ => k - (intOf ir).toNat)
  case atStart => exact ⟨0, Nat.zero_le _, rfl, hM0⟩
  case round =>
    obtain ⟨i, hi, rfl, hMS⟩ := hrel
    by_cases hik : i < k
    · have hbr := hMS.2.2.2
      have htk : St.next ⟨body.drop (48 * i), false⟩ 48 = ((body.drop (48 * i)).take 48, ⟨body.drop (48 * (i + 1)), false⟩) := by
        unfold St.next
        rw [if_pos (by have := HB.out; simp only [List.length_drop]; omega)]
        simp only [List.drop_drop]
        rfl
      have hpl : ((body.drop (48 * i)).take 48).length = 48 := by have := HB.out; rw [List.length_take, List.length_drop]; omega
      have hTake := fun (w : World) (hR : Rdr w g ⟨body.drop (48 * i), false⟩) => take_any g _ 48 w hR
      rw [htk] at hTake
      dsimp only at hTake
      rw [hpl] at hTake
      have HT := Lib.hid hTake
      have hs1 : secs m body (i + 1) = secs m body i ++ headB m ++ (body.drop (48 * i)).take 48 ++ le 8 m := by
        simp only [secs, sec, List.append_assoc]
      have HS1 := Lib.hid hs1
      clear htk hpl hTake hs1
      generalize (body.drop (48 * i)).take 48 = pc at *
      go_wp2_with (first
        | (at_builtin; first
            | (have hx3 := hMS3; refine wpL_app (m := 8) (y := .slice A2 8 c2) rfl (.tmp 44) (.tmp 45) _ _ rfl E_u8 rfl rfl hMS3.1 ((ht2.below hMS3.2.2.2).src Tryz.underlying86 (u8s_one _)) (by unfold maxLen; omega) (by omega) hMS3.2.2.2.size ?_; intro v8 w8 hown8 hg8 hat8; have hMS4 := hMS3.app hown8 hg8 hat8)
            | (have hx2 := hMS2; refine wpL_app (m := 48) (y := .slice A7 48 c7) rfl (.tmp 40) (.tmp 42) _ _ rfl E_u8 rfl rfl hMS2.1 (hrd7.src Tryz.underlying86 (u8s_one _)) (by unfold maxLen; omega) (by omega) hMS2.2.2.2.size ?_; intro v7 w7' hown7' hg7' hat7; have hMS3 := hMS2.app hown7' hg7' hat7)
            | (refine wpL_app (m := 8) (y := .slice A1 8 c1) rfl (.tmp 37) (.tmp 38) _ _ rfl E_u8 rfl rfl hMS.1 ((hh2.below hbr).src Tryz.underlying86 (u8s_one _)) (by unfold maxLen; omega) (by omega) hbr.size ?_; intro v6 w6 hown6 hg6 hat6; have hMS1 := hMS.app hown6 hg6 hat6))
        | (go_at_call 139; refine (HT.out _ hMS1.2.2.1).mono ?_; rintro e w7 ⟨v7, rfl, hown7, hR7, hg7⟩; have hMS2 := hMS1.turn hR7 hg7 hgB; obtain ⟨A7, c7, rfl⟩ := ownsRow_form hown7; have hrd7 := ownsRow_rd hown7)
        | fail)
      go_roundw
      case rel =>
        refine ⟨i + 1, by omega, by go_num, ?_⟩
        rw [HS1.out, show 64 * (i + 1) = 64 * i + 8 + 48 + 8 from by omega]
        exact hMS4
      case measure => simp [intOf]; omega
    · obtain rfl : i = k := by omega
      go_wp2
      go_ret2
      rw [HBD.out] at hMS
      exact ⟨u9, rfl, ownsRow_low hMS.1 hb02.size, hb02.trans (hMS.2.2.2.mono hb02.size)⟩

theorem make_zero (A : Option Addr) (n c : Nat) (w : World) :
    Calls Tryz.prog 124 #[.int .u64 0, .slice A n c] w fun e w' => e = .returned (.tuple #[.slice none 0 0, .int .i64 2]) ∧ w = w' := by
  go_enter Tryz.func124, Tryz.ntmps124
  go_wp2
  go_ret2
  exact ⟨rfl, rfl⟩
theorem make_long (m : Nat) (A : Option Addr) (n c : Nat) (w : World) (hm : 0 < m) (hn : 65536 < n) :
    Calls Tryz.prog 124 #[.int .u64 (m : Int), .slice A n c] w fun e w' => e = .returned (.tuple #[.slice none 0 0, .int .i64 11]) ∧ w = w' := by
  have q0 : ((m : Int) == 0) = false := by simp; omega
  have d1 : decide ((65536 : Int) < (n : Int)) = true := by simp; omega
  clear hm hn
  go_enter Tryz.func124, Tryz.ntmps124
  go_wp2
  go_ret2
  exact ⟨rfl, rfl⟩

end Go.Proofs.YtpalmobmabkadaaGreatDoor

namespace Go.Proofs.YtpalmobmabkadaaGreatDoor
set_option maxRecDepth 20000
open Go.RowKit
attribute [local go_sem] Oper.semAt_some

theorem ite_yes {c : Prop} [Decidable c] {A B : Prop} (h : c) (k : A) : if c then A else B := by rw [if_pos h]; exact k
theorem setCell_grown (w : World) (b : Nat) (u : Value) : w.grownBy (w.setCell ⟨b, 0, none⟩ u) (some b) := setCell_by (World.grownBy.refl w (some b)) (p := ⟨b, 0, none⟩) rfl u
/-- append within a round, at its operation. -/
theorem upon_app {F : Fence} {n : Nat} {P : Program} {l : Nat} {o : Oper} {a : Act} {w : World} {K : Act → World → Prop} {Q : Exit → Act → World → Prop} (hro : F.round = some l) (s x : Operand) (t tx : TypeId)
    (ho : o.op = .call { callee := .builtin .append, args := #[s, x], argTypes := #[t, tx] })
    {base m k sz bt : Nat} {e : TypeId} {z v y : Value} {xs news : List Value} (hT : Elem P t e z sz bt) (hs : a.eval s = v) (hx : a.eval x = y) (hown : w.ownsRow base e sz v k xs) (hsrc : Src P sz tx y m news w)
    (h63 : k + m ≤ maxLen) (hbytes : (k + m) * bt ≤ 140737488355328) (hbase : base ≤ w.heap.size)
    (h : ∀ v' w', w'.ownsRow base e sz v' (k + m) (xs ++ news) → w.grownBy w' v.ownBlock → (v'.ownBlock = v.ownBlock ∨ v'.ownBlock = some w.heap.size) → K (a.put o.dst v') w') :
    o.uponIn F n P a K Q ((o.semAt F.round a.eval).run P w) := by
  obtain ⟨v', w', hr, h1, h2, h3⟩ := run_app (ty := o.type) hT hown hsrc h63 hbytes hbase
  rw [hro]
  have e : (o.semAt (some l) a.eval).run P w = .ok (.value v') w' := by
    unfold Oper.semAt
    simp only [ho]
    unfold execOp
    simp only [ho, resolve, invoke, builtin, Sem.run_bind, Sem.run_pure, Result.andThen_ok, List.map_toArray, List.map_cons, List.map_nil, hs, hx, hr]
  rw [e]
  exact h v' w' h1 h2 h3

theorem chunk_any (A : Option Addr) (n c : Nat) (w : World) :
    Calls Tryz.prog 107 #[.slice A n c, .int .i64 64] w fun e w' => e = .returned (.func (.func 130) #[] #[.pointer (some ⟨w.heap.size, 0, none⟩), .pointer (some ⟨w.heap.size + 1, 0, none⟩)]) ∧
      w'.heap[w.heap.size]? = some (.cells #[.slice A n c] 86 (0, 0)) ∧ w'.heap[w.heap.size + 1]? = some (.cells #[.int .i64 64] 3 (0, 0)) ∧ w'.heap.size = w.heap.size + 2 ∧ Below w.heap.size w w' := by
  go_enter Tryz.func107, Tryz.ntmps107
  go_wp2
  obtain ⟨W0, hW0, hz0, hr0, hr1, hb0⟩ := boxes2 w #[.slice A n c] #[.int .i64 64] 86 3
  rw [← hW0]
  go_ret
  exact ⟨rfl, hr0, hr1, hz0, hb0⟩

/-- The sector number i, its piece, and the pieces of k sectors. -/
def sect (l : List UInt8) (i : Nat) : List UInt8 := (l.drop (64 * i)).take 64
def piece (l : List UInt8) (i : Nat) : List UInt8 := ((sect l i).drop 8).take 48
def pieces (l : List UInt8) : Nat → List UInt8
  | 0 => []
  | k + 1 => pieces l k ++ piece l k
/-- What is wrong with the first of k sectors that is none of the frame's. -/
def errAt (l : List UInt8) (m : Nat) : Nat → Int
  | 0 => 0
  | k + 1 => if errAt l m k ≠ 0 then errAt l m k else wrongOf (sect l k) m
def joinedOf (l : List UInt8) (k m : Nat) : List UInt8 × Int := if l.length < 64 * k then ([], 10) else if errAt l m k ≠ 0 then ([], errAt l m k) else (pieces l k, 0)
theorem errAt_stays (l : List UInt8) (m j k : Nat) (h : j ≤ k) (he : errAt l m j ≠ 0) : errAt l m k = errAt l m j := by
  induction k with
  | zero => obtain rfl : j = 0 := by omega
            rfl
  | succ k ih =>
    rcases Nat.lt_or_ge j (k + 1) with h1 | h1
    · have := ih (by omega)
      rw [errAt, if_pos (by rw [this]; exact he), this]
    · obtain rfl : j = k + 1 := by omega
      rfl
theorem piece_len (l : List UInt8) (i : Nat) (h : 64 * (i + 1) ≤ l.length) : (piece l i).length = 48 := by
  simp only [piece, sect, List.length_take, List.length_drop]
  omega
theorem pieces_len (l : List UInt8) (k : Nat) (h : 64 * k ≤ l.length) : (pieces l k).length = 48 * k := by
  induction k with
  | zero => rfl
  | succ k ih =>
    rw [pieces, List.length_append, ih (by omega), piece_len _ _ (by omega)]
    omega

/-- Between two rounds: k sectors are the frame's, and their pieces are laid. -/
structure JJ (w : World) (m : Nat) (A : Option Addr) (n c : Nat) (l : List UInt8) (k : Nat) (W : World) : Prop where
  ok : errAt l m k = 0
  num : W.heap[w.heap.size]? = some (.cells #[.int .u64 (m : Int)] 34 (0, 0))
  r1 : W.heap[w.heap.size + 1]? = some (.cells #[.slice none 0 0] 86 (0, 0))
  r2 : W.heap[w.heap.size + 2]? = some (.cells #[.int .i64 0] 29 (0, 0))
  cell : ∃ v, W.heap[w.heap.size + 4]? = some (.cells #[v] 86 (0, 0)) ∧ W.ownsRow (w.heap.size + 3) 5 1 v (48 * k) (u8s (pieces l k)) ∧ ∀ q, v.ownBlock = some q → q = w.heap.size + 3 ∨ w.heap.size + 9 ≤ q
  b1 : W.heap[w.heap.size + 5]? = some (.cells #[.slice A n c] 86 (0, 0))
  b2 : W.heap[w.heap.size + 6]? = some (.cells #[.int .i64 64] 3 (0, 0))
  bel : Below w.heap.size w W
theorem JJ.step {w W W' : World} {m n c k : Nat} {A : Option Addr} {l : List UInt8} (h : JJ w m A n c l k W) {row : Option Nat} (hg : W.grownBy W' row) (hr : ∀ r, row = some r → w.heap.size + 7 ≤ r ∧ (r < w.heap.size + 9 ∨ W.heap.size ≤ r)) : JJ w m A n c l k W' := by
  have far : ∀ b, b < w.heap.size + 7 → some b ≠ row := fun b hb e => by have := hr b e.symm; omega
  obtain ⟨v, h1, h2, h3⟩ := h.cell
  refine ⟨h.ok, row_far h.num hg (far _ (by omega)), row_far h.r1 hg (far _ (by omega)), row_far h.r2 hg (far _ (by omega)), ⟨v, row_far h1 hg (far _ (by omega)), h2.kept hg ?_, h3⟩, row_far h.b1 hg (far _ (by omega)), row_far h.b2 hg (far _ (by omega)), h.bel.grown hg h.bel.size (fun r e => by have := hr r e; omega)⟩
  cases hk : v.ownBlock with
  | none => exact .inl rfl
  | some q => exact .inr (fun e => by have := h3 q hk; have := (h2.lt q hk).2; have := hr q e.symm; omega)
theorem JJ.below {w W W' : World} {m n c k : Nat} {A : Option Addr} {l : List UInt8} (h : JJ w m A n c l k W) (hb : Below W.heap.size W W') : JJ w m A n c l k W' :=
  h.step (below_grown hb none) (fun r e => by cases e)
theorem JJ.drewN {w W : World} {m n c k : Nat} {A : Option Addr} {l : List UInt8} (h : JJ w m A n c l k W) (d : Nat) : JJ w m A n c l k (W.drewN d) :=
  h.below ⟨rfl, rfl, rfl, Nat.le_refl _, fun _ _ => rfl⟩
theorem JJ.robust {w : World} {m n c k : Nat} {A : Option Addr} {l : List UInt8} : Robust (w.heap.size + 7) (JJ w m A n c l k) := fun W r o h hr hlt =>
  h.step (grownBy_putObj' W r o) (fun q e => by have := Option.some.inj e; omega)
/-- Behind what a round lays. -/
theorem JJ.next {w W w2 : World} {m n c k : Nat} {A : Option Addr} {l : List UInt8} {v v2 : Value} (h : JJ w m A n c l k W) (he : wrongOf (sect l k) m = 0) (hc : W.heap[w.heap.size + 4]? = some (.cells #[v] 86 (0, 0))) (_ : W.ownsRow (w.heap.size + 3) 5 1 v (48 * k) (u8s (pieces l k))) (hv : ∀ q, v.ownBlock = some q → q = w.heap.size + 3 ∨ w.heap.size + 9 ≤ q)
    (hW : w.heap.size + 9 ≤ W.heap.size) (hown2 : w2.ownsRow (w.heap.size + 3) 5 1 v2 (48 * k + 48) (u8s (pieces l k) ++ u8s (piece l k))) (hg : W.drew.grownBy w2 v.ownBlock) (ha : v2.ownBlock = v.ownBlock ∨ v2.ownBlock = some W.heap.size) :
    KeepsRec (w.heap.size + 7) W (w2.setCell ⟨w.heap.size + 4, 0, none⟩ v2) ∧ JJ w m A n c l (k + 1) (w2.setCell ⟨w.heap.size + 4, 0, none⟩ v2) := by
  have hg' : W.grownBy w2 v.ownBlock := ⟨hg.os, hg.tape, hg.output, hg.size, hg.block⟩
  have gs := setCell_grown w2 (w.heap.size + 4) v2
  have hv2 : ∀ q, v2.ownBlock = some q → q = w.heap.size + 3 ∨ w.heap.size + 9 ≤ q := by
    intro q hq
    rcases ha with ha | ha
    · exact hv q (ha ▸ hq)
    · rw [ha] at hq
      have := Option.some.inj hq
      omega
  have far : ∀ b o, W.heap[b]? = some o → b < w.heap.size + 9 → b ≠ w.heap.size + 3 → b ≠ w.heap.size + 4 → (w2.setCell ⟨w.heap.size + 4, 0, none⟩ v2).heap[b]? = some o := fun b o hb h1 h2 h3 =>
    row_far (row_far hb hg' (fun e => by have := hv b e.symm; omega)) gs (fun e => h3 (Option.some.inj e))
  have hr4 := row_far hc hg' (fun e => by have := hv _ e.symm; omega)
  refine ⟨(KeepsRec.grown hg' (by omega) (fun r hr => by have := hv r hr; omega)).trans (KeepsRec.grown gs (by have := hg'.size; omega) (fun r hr => by have := Option.some.inj hr; omega)), ?_⟩
  refine ⟨by rw [errAt, if_neg (by rw [h.ok]; decide), he], far _ _ h.num (by omega) (by omega) (by omega), far _ _ h.r1 (by omega) (by omega) (by omega), far _ _ h.r2 (by omega) (by omega) (by omega), ⟨v2, ?_, ?_, hv2⟩, far _ _ h.b1 (by omega) (by omega) (by omega), far _ _ h.b2 (by omega) (by omega) (by omega), ?_⟩
  · rw [heap_setCell_same w2 (w.heap.size + 4) 0 _ _ _ hr4]; rfl
  · rw [pieces, u8s_app, show 48 * (k + 1) = 48 * k + 48 from by omega]
    refine hown2.kept gs ?_
    cases hk : v2.ownBlock with
    | none => exact .inl rfl
    | some q => exact .inr (fun e => by have := hv2 q hk; have := Option.some.inj e; omega)
  · exact (h.bel.grown hg' h.bel.size (fun q e => by have := hv q e; omega)).grown gs (Nat.le_trans h.bel.size hg'.size) (fun q e => by have := Option.some.inj e; omega)

end Go.Proofs.YtpalmobmabkadaaGreatDoor

namespace Go.Proofs.YtpalmobmabkadaaGreatDoor
set_option maxRecDepth 20000
open Go.RowKit
attribute [local go_sem] Oper.semAt_some

theorem results_cell2 {fn : Func} {p q : Tmp} {tp tq : TypeId} (h : fn.results = #[.cell p tp, .cell q tq]) (tmps : Array Value) {P : Program} {w : World} {a b : Addr} {u v : Value} (hp : tmps.getD p undef = .pointer (some a)) (hq : tmps.getD q undef = .pointer (some b))
    (h1 : (loadVar tp a).run P w = .ok u w) (h2 : (loadVar tq b).run P w = .ok v w) : (results fn tmps).run P w = .ok (.tuple #[u, v]) w := by
  have hp' : tmps[p]?.getD undef = .pointer (some a) := by simpa using hp
  have hq' : tmps[q]?.getD undef = .pointer (some b) := by simpa using hq
  simp [results, h, hp', hq', asAddr, Sem.run_bind, h1, h2, Result.andThen]

theorem load_slice {w : World} {b : Nat} {A : Option Addr} {n c : Nat} (h : w.cell? ⟨b, 0, none⟩ = some (.slice A n c)) : (loadVar 86 ⟨b, 0, none⟩).run Tryz.prog w = .ok (.slice A n c) w := by
  go_simp
theorem load_err {w : World} {b : Nat} {E : Int} (h : w.cell? ⟨b, 0, none⟩ = some (.int .i64 E)) : (loadVar 29 ⟨b, 0, none⟩).run Tryz.prog w = .ok (.int .i64 E) w := by
  go_simp

theorem joined_early (A : Option Addr) (n c k m : Nat) (w : World) (hn : n < 64 * k) (hk : k ≤ 2000) :
    Calls Tryz.prog 128 #[.slice A n c, .int .i64 (k : Int), .int .u64 (m : Int)] w (Tells w [] 10) := by
  have hi : (n : Int) < (k : Int) * 64 := by omega
  have hki : (k : Int) ≤ 2000 := by omega
  clear hn
  go_enter Tryz.func128, Tryz.ntmps128
  go_wp2
  obtain ⟨W0, hW0, hz0, hr0, hr1, hr2, hb0⟩ := boxes3 w #[.int .u64 (m : Int)] #[.slice none 0 0] #[.int .i64 10] 34 86 29
  rw [← hW0]
  refine bodyPost_ret (results_cell2 rfl _ rfl rfl (load_slice (cell_of_row _ _ 0 _ _ _ hr1)) (load_err (cell_of_row _ _ 0 _ _ _ hr2))) rfl ⟨none, 0, 0, rfl, rfl, Rd.nil_, hb0⟩


theorem run_make0e {P : Program} {w : World} {base sz bt : Nat} {t e : TypeId} {z : Value} (hT : Elem P t e z sz bt) (n : Nat) (C : Int) (hC : C = (n : Int)) (hb : bt * n ≤ 281474976710656) (h63 : n ≤ maxLen) (hbase : base ≤ w.heap.size) :
    ∃ cs, (Instr.makeSlice t (.int .i64 0) (.int .i64 C)).run P w = .ok (.slice (some ⟨w.heap.size, 0, none⟩) 0 n) (w.alloc (.cells cs e)) ∧ (w.alloc (.cells cs e)).ownsRow base e sz (.slice (some ⟨w.heap.size, 0, none⟩) 0 n) 0 [] := by
  obtain ⟨ht, ⟨i, hi, hz, rfl, rfl⟩, _, _⟩ := hT
  subst hC
  have h63' : (n : Int) ≤ 9223372036854775807 := by
    have h := h63
    simp [maxLen] at h
    omega
  have hb' : (i.bytes : Int) * (n : Int) ≤ 281474976710656 := by
    have h : ((i.bytes * n : Nat) : Int) ≤ 281474976710656 := by omega
    rwa [Int.natCast_mul] at h
  have hr := run_make (P := P) w t e i z ht hi hz .i64 .i64 0 n (Int.le_refl _) (by omega) hb' h63'
  simp only [Int.toNat_zero, Int.toNat_natCast] at hr
  exact ⟨_, hr, World.ownsRow_made w _ n hbase h63 (size_madeCells _ _)⟩

/-- Five new blocks. -/
theorem boxes5 (w : World) (p0 p1 p2 p3 p4 : Array Value) (t0 t1 t2 t3 t4 : TypeId) : ∃ W, W = ((((w.alloc (.cells p0 t0)).alloc (.cells p1 t1)).alloc (.cells p2 t2)).alloc (.cells p3 t3)).alloc (.cells p4 t4) ∧ W.heap.size = w.heap.size + 5 ∧ W.heap[w.heap.size]? = some (.cells p0 t0 (0, 0)) ∧ W.heap[w.heap.size + 1]? = some (.cells p1 t1 (0, 0)) ∧ W.heap[w.heap.size + 2]? = some (.cells p2 t2 (0, 0)) ∧ W.heap[w.heap.size + 3]? = some (.cells p3 t3 (0, 0)) ∧ W.heap[w.heap.size + 4]? = some (.cells p4 t4 (0, 0)) ∧ Below w.heap.size w W :=
  ⟨_, rfl, by simp, row_old _ (row_old _ (row_old _ (row_old _ (row_here _ _ (by simp))))), row_old _ (row_old _ (row_old _ (row_here _ _ (by simp)))), row_old _ (row_old _ (row_here _ _ (by simp))), row_old _ (row_here _ _ (by simp)), row_here _ _ (by simp),
    (((((Below.refl _ _).alloc (Nat.le_refl _) _).alloc (by simp) _).alloc (by simp; omega) _).alloc (by simp; omega) _).alloc (by simp; omega) _⟩

set_option maxHeartbeats 4000000 in
set_option maxRecDepth 8000 in
theorem joined_late (A : Option Addr) (n c k m : Nat) (l : List UInt8) (w : World) (h : Rd w w.heap.size 1 A n c (u8s l)) (hn : n ≤ 1000000) (hk1 : 1 ≤ k) (hk : k ≤ 2000) (hnk : 64 * k ≤ n) :
    Calls Tryz.prog 128 #[.slice A n c, .int .i64 (k : Int), .int .u64 (m : Int)] w (Tells w (if errAt l m k ≠ 0 then ([], errAt l m k) else (pieces l k, 0)).1 (if errAt l m k ≠ 0 then ([], errAt l m k) else (pieces l k, 0)).2) := by
  have hln : l.length = n := by have := h.len; rwa [u8s_len] at this
  obtain ⟨b, o, rfl, hbw, hcell⟩ := h.2.2.2 (by omega)
  have hnc := h.1
  have hki : (k : Int) ≤ 2000 := by omega
  have hin : decide ((n : Int) < (k : Int) * 64) = false := by simp; omega
  have hkn : (k : Int) * 64 ≤ (n : Int) := by omega
  have hkc : (k : Int) * 64 ≤ (c : Int) := by omega
  have HLN := Lib.hid hln
  have HCELL := Lib.hid hcell
  clear hln hcell
  obtain ⟨P, hP⟩ : ∃ P, P = Tells w (if errAt l m k ≠ 0 then ([], errAt l m k) else (pieces l k, 0)).1 (if errAt l m k ≠ 0 then ([], errAt l m k) else (pieces l k, 0)).2 := ⟨_, rfl⟩
  rw [← hP]
  have HPP := Lib.hid hP
  clear hP
  obtain ⟨cs, hmk, hmo⟩ := run_make0e (P := Tryz.prog) (w := ((w.alloc (.cells #[.int .u64 (m : Int)] 34)).alloc (.cells #[.slice none 0 0] 86)).alloc (.cells #[.int .i64 0] 29)) (base := w.heap.size + 3) E_u8 (k * 48) ((k : Int) * 48) (by omega) (by omega) (by unfold maxLen; omega) (by simp)
  simp only [World.size_alloc] at hmk hmo
  have HMO := Lib.hid hmo
  clear hmo
  refine (callsIn_wide (n := 9)).1 ?_
  refine callsIn_of_wp_marks Tryz.func128 rfl trivial ?_ rfl
  simp only [Tryz.ntmps128, List.size_toArray, List.length_nil, List.length_cons, Nat.reduceAdd, Nat.reduceSub, Array.replicate_succ, Array.replicate_zero, List.push_toArray, List.append_toArray, List.nil_append, List.cons_append]
  gi_wp2_with (first
    | (refine ⟨trivial, ?_⟩; gi_at_call 107; refine (callsIn_wide.2 (chunk_any _ _ _ _)).mono ?_; rintro e w5 ⟨rfl, hr5, hr6, hz5, hb5⟩))
  obtain ⟨W0, hW0, hz0', g0, g1, g2, g3, g4, hb0⟩ := boxes5 w #[.int .u64 (m : Int)] #[.slice none 0 0] #[.int .i64 0] cs #[.slice (some ⟨w.heap.size + 3, 0, none⟩) 0 (k * 48)] 34 86 29 5 86
  have hmo := HMO.out
  have hmo0 : W0.ownsRow (w.heap.size + 3) 5 1 (.slice (some ⟨w.heap.size + 3, 0, none⟩) 0 (k * 48)) 0 [] := by rw [hW0]; exact hmo.alloc _
  have e0 : ((((w.alloc (.cells #[.int .u64 (m : Int)] 34)).alloc (.cells #[.slice none 0 0] 86)).alloc (.cells #[.int .i64 0] 29)).alloc (.cells cs 5)).alloc (.cells #[.slice (some ⟨w.heap.size + 1 + 1 + 1, 0, none⟩) 0 (k * 48)] 86) = W0 := hW0.symm
  rw [e0] at hr5 hr6 hz5 hb5
  rw [hz0'] at hr5 hr6 hz5
  clear e0 hW0 hmk hmo HMO
  have hbw5 : Below w.heap.size w w5 := hb0.trans (hb5.mono (by omega))
  have hJ0 : JJ w m (some ⟨b, o, none⟩) (k * 64) c l 0 w5 := by
    refine ⟨rfl, row_below g0 hb5, row_below g1 hb5, row_below g2 hb5, ⟨_, row_below g4 hb5, ?_, fun q hq => .inl (Option.some.inj hq).symm⟩, hr5, hr6, hbw5⟩
    exact ownsRow_below hmo0 hb5
  have hz0 : w5.heap.size = w.heap.size + 7 := by omega
  clear hr5 hr6 hz5 hb5 hz0' g0 g1 g2 g3 g4 hb0 hmo0
  refine wpIn_rangeJ rfl (by omega) (gf := 130) (lb := #[.pointer (some ⟨w.heap.size + 5, 0, none⟩), .pointer (some ⟨w.heap.size + 6, 0, none⟩)]) rfl trivial (enters_of Tryz.func130 (by kernel_rfl) rfl)
    (encs := fun x : Nat => #[chunkv b o (k * 64) x]) (fun _ => rfl)
    (fun j => JJ w m (some ⟨b, o, none⟩) (k * 64) c l j) (fun j x W => x = j ∧ JJ w m (some ⟨b, o, none⟩) (k * 64) c l j W)
    (fun cd W => cd = .ret ∧ errAt l m k ≠ 0 ∧ W.heap[w.heap.size + 1]? = some (.cells #[.slice none 0 0] 86 (0, 0)) ∧ W.heap[w.heap.size + 2]? = some (.cells #[.int .i64 (errAt l m k)] 29 (0, 0)) ∧ Below w.heap.size w W) k ?hJ ?hJ' ?hJx ?h0 ?hiter
    (fun x => { tmps := #[.slice (some ⟨b, o, none⟩) n c, .int .i64 (k : Int), .int .u64 (m : Int), undef, undef, .pointer (some ⟨w.heap.size, 0, none⟩), .pointer (some ⟨w.heap.size + 1, 0, none⟩), .pointer (some ⟨w.heap.size + 1 + 1, 0, none⟩), .pointer (some ⟨w.heap.size + 1 + 1 + 1 + 1, 0, none⟩), chunkv b o (k * 64) x, undef, .slice (some ⟨b, o, none⟩) n c, .int .i64 (n : Int), .int .i64 (k : Int), .int .i64 ((k : Int) * 64), .bool false, .int .i64 (k : Int), .int .i64 ((k : Int) * 48), .slice (some ⟨w.heap.size + 1 + 1 + 1, 0, none⟩) 0 (k * 48), .slice (some ⟨b, o, none⟩) n c, .int .i64 (k : Int), .int .i64 ((k : Int) * 64), .slice (some ⟨b, o, none⟩) (k * 64) c, .func (.func 130) #[] #[.pointer (some ⟨w.heap.size + 1 + 1 + 1 + 1 + 1, 0, none⟩), .pointer (some ⟨w.heap.size + 1 + 1 + 1 + 1 + 1 + 1, 0, none⟩)], chunkv b o (k * 64) x, undef, undef, undef, undef, undef, undef, undef, undef, undef, undef, undef], defers := [] })
    ?assign ?body ?done ?stop
  case hJ =>
    rw [hz0]
    exact fun j => JJ.robust
  case hJ' =>
    rw [hz0]
    exact fun j x W r o' hh hr hl => ⟨hh.1, JJ.robust W r o' hh.2 hr hl⟩
  case hJx =>
    rw [hz0]
    rintro cd W r o' ⟨h1, h2, h3, h4, h5⟩ hr hl
    have hg := grownBy_putObj' W r o'
    exact ⟨h1, h2, row_far h3 hg (fun e => by have := Option.some.inj e; omega), row_far h4 hg (fun e => by have := Option.some.inj e; omega), h5.grown hg h5.size (fun q e => by have := Option.some.inj e; omega)⟩
  case h0 =>
    intro o1 o2
    exact (hJ0.below ((Below.refl _ _).alloc (Nat.le_refl _) _)).below ((Below.refl _ _).alloc (Nat.le_refl _) _)
  case hiter =>
    intro l0 R Rx hR hY hRs hRx W hJW hRW
    refine (chunk1_in 8 l0 (w.heap.size + 5) (w.heap.size + 6) b o (k * 64) c (fun j => JJ w m (some ⟨b, o, none⟩) (k * 64) c l j) R Rx (by omega) (by omega) (by omega) ?_ ?_ ?_ W hJW hRW).mono ?_
    · exact fun j W hJ _ => ⟨cell_of_row W _ 0 _ _ _ hJ.b1, cell_of_row W _ 0 _ _ _ hJ.b2⟩
    · exact fun j W d hJ hRj => ⟨hJ.drewN d, hR _ _ hRj ⟨Nat.le_refl _, rfl, rfl⟩⟩
    · exact fun j W hj hJ hRj => hY j j W (by omega) ⟨rfl, hJ⟩ hRj
    · rintro e W' ⟨hv, hor⟩
      rw [show (k * 64 + 63) / 64 = k from by omega] at hor
      exact ⟨hv, hor⟩
  case assign =>
    intro l0 x W K hK
    gi_wp2
    exact hK
  case body =>
    rintro l0 j x W hj ⟨rfl, hJ⟩ hlt2
    rw [hz0] at hlt2
    have ec : chunkv b o (k * 64) x = .slice (some ⟨b, o + 64 * x, none⟩) 64 64 := by unfold chunkv; rw [show min 64 (k * 64 - 64 * x) = 64 from by omega]
    rw [ec]
    clear ec
    have hsl : Rd W W.heap.size 1 (some ⟨b, o + 64 * x, none⟩) 64 64 (u8s (sect l x)) := by
      have hb := hJ.bel
      have := (h.below hb).more hb.size
      have h1 := this.cut (k := 64 * x) (m := 64) (by omega)
      rw [← u8s_drop, ← u8s_take, Option.map_some, addOff] at h1
      exact ⟨Nat.le_refl _, by unfold maxLen; omega, h1.2.2.1, h1.2.2.2⟩
    have d5 : W.cell? ⟨w.heap.size, 0, none⟩ = some (.int .u64 (m : Int)) := cell_of_row W _ 0 _ _ _ hJ.num
    have hmx : Tryz.prog.follows .mixedOrders = true := by kernel_rfl
    have hWr := wrong_any _ 64 64 (sect l x) m W hsl (by omega)
    obtain ⟨E, hE⟩ : ∃ E, E = wrongOf (sect l x) m := ⟨_, rfl⟩
    rw [← hE] at hWr
    have HWr := Lib.hid hWr
    have HE := Lib.hid hE
    have HJ := Lib.hid hJ
    clear hWr hE
    have HSL := Lib.hid hsl
    clear hsl
    by_cases hE0 : E = 0
    · subst hE0
      gi_wp2_with (first
        | (refine ⟨trivial, ?_⟩; gi_at_call 140; refine (CallsIn.inRound l0 (callsIn_wide.2 HWr.out)).mono ?_; rintro e W2 ⟨rfl, hb2⟩))
      have hJ2 := hJ.below hb2
      have hwr : wrongOf (sect l x) m = 0 := HE.out.symm
      have hkr : KeepsRec w5.heap.size W W2 := KeepsRec.below hb2 (by omega)
      have hzW2 := hb2.size
      obtain ⟨v, hc2, hown, hv2⟩ := hJ2.cell
      have HCR := HSL.out
      have HCR2 := Lib.hid (show Rd W2.drew W2.heap.size 1 (some ⟨b, o + 64 * x, none⟩) 64 64 (u8s (sect l x)) from (HSL.out.below hb2).more hb2.size)
      have HP := Lib.hid (fun (W' : World) (hh : Rd W' W2.heap.size 1 (some ⟨b, o + 64 * x, none⟩) 64 64 (u8s (sect l x))) => piece_any _ 64 64 (sect l x) W2.heap.size W' hh (by omega) (by omega))
      have d8 : W2.cell? ⟨w.heap.size + 4, 0, none⟩ = some v := cell_of_row W2 _ 0 _ _ _ hc2
      have hownd : W2.drew.ownsRow (w.heap.size + 3) 5 1 v (48 * x) (u8s (pieces l x)) := hown
      gi_wp2
      refine wpIn_region_any hmx ?_
      change wpAnyIn _ _ _ _ _ _ _ _ _ (World.drew _)
      refine wpAnyIn_ready (rs := [0,1]) (by kernel_rfl) (by simp) ?_
      refine AllReadyIn.cons rfl (fun K hK => ?_) ?_
      · go_simp
        refine hK _ _ ?_
        clear hK
        refine wpAnyIn_ready (rs := [1]) (by kernel_rfl) (by simp) ?_
        refine AllReadyIn.cons rfl (fun K hK => ?_) AllReadyIn.nil
        go_simp
        refine hK _ _ ?_
        clear hK
        refine wpAnyIn_ready (rs := [2]) (by kernel_rfl) (by simp) ?_
        refine AllReadyIn.cons rfl (fun K hK => ?_) AllReadyIn.nil
        go_simp
        refine ⟨trivial, ?_⟩
        refine (CallsIn.inRound l0 (callsIn_wide.2 (HP.out W2.drew HCR2.out))).mono ?_
        rintro e w' ⟨bp, op, rfl, hrdp, rfl⟩
        dsimp only
        refine hK _ _ ?_
        clear hK
        refine wpAnyIn_ready (rs := [3]) (by kernel_rfl) (by simp) ?_
        refine AllReadyIn.cons (by simp only [List.getElem?_toArray, List.getElem?_cons_succ, List.getElem?_cons_zero]; rfl) (fun K hK => ?_) AllReadyIn.nil
        refine ite_yes rfl ?_
        refine ⟨fun _ _ => trivial, ?_⟩
        refine upon_app rfl (.tmp 31) (.tmp 33) _ _ rfl E_u8 (m := 48) rfl rfl hownd (hrdp.src Tryz.underlying86 (u8s_one _)) (by unfold maxLen; omega) (by omega) (show w.heap.size + 3 ≤ W2.heap.size by omega) ?_
        intro v2 w2 hown2 hg2 hat2
        refine hK _ _ ?_
        clear hK
        obtain ⟨A2, k2, rfl⟩ := ownsRow_form hown2
        have r2 := row_far (show W2.drew.heap[w.heap.size + 4]? = _ from hc2) hg2 (fun e => by have := hv2 _ e.symm; omega)
        have c5 : w2.cell? ⟨w.heap.size + 4, 0, none⟩ = some v := cell_of_row w2 _ 0 _ _ _ r2
        have f5 := frozen_of_row w2 _ 0 _ _ r2
        refine wpAnyIn_ready (rs := [4]) (by kernel_rfl) (by simp) ?_
        refine AllReadyIn.cons rfl (fun K hK => ?_) AllReadyIn.nil
        go_simp
        refine hK _ _ ?_
        clear hK
        refine wpAnyIn_done (by kernel_rfl) ?_ _
        have hfin := JJ.next hJ2 hwr hc2 hown hv2 (by omega) hown2 hg2 hat2
        rw [← hz0] at hfin
        exact ⟨hkr.trans hfin.1, hfin.2⟩
      refine AllReadyIn.cons rfl (fun K hK => ?_) AllReadyIn.nil
      go_simp
      refine hK _ _ ?_
      clear hK
      refine wpAnyIn_ready (rs := [0,2]) (by kernel_rfl) (by simp) ?_
      refine AllReadyIn.cons rfl (fun K hK => ?_) ?_
      · go_simp
        refine hK _ _ ?_
        clear hK
        refine wpAnyIn_ready (rs := [2]) (by kernel_rfl) (by simp) ?_
        refine AllReadyIn.cons rfl (fun K hK => ?_) AllReadyIn.nil
        go_simp
        refine ⟨trivial, ?_⟩
        refine (CallsIn.inRound l0 (callsIn_wide.2 (HP.out W2.drew HCR2.out))).mono ?_
        rintro e w' ⟨bp, op, rfl, hrdp, rfl⟩
        dsimp only
        refine hK _ _ ?_
        clear hK
        refine wpAnyIn_ready (rs := [3]) (by kernel_rfl) (by simp) ?_
        refine AllReadyIn.cons (by simp only [List.getElem?_toArray, List.getElem?_cons_succ, List.getElem?_cons_zero]; rfl) (fun K hK => ?_) AllReadyIn.nil
        refine ite_yes rfl ?_
        refine ⟨fun _ _ => trivial, ?_⟩
        refine upon_app rfl (.tmp 31) (.tmp 33) _ _ rfl E_u8 (m := 48) rfl rfl hownd (hrdp.src Tryz.underlying86 (u8s_one _)) (by unfold maxLen; omega) (by omega) (show w.heap.size + 3 ≤ W2.heap.size by omega) ?_
        intro v2 w2 hown2 hg2 hat2
        refine hK _ _ ?_
        clear hK
        obtain ⟨A2, k2, rfl⟩ := ownsRow_form hown2
        have r2 := row_far (show W2.drew.heap[w.heap.size + 4]? = _ from hc2) hg2 (fun e => by have := hv2 _ e.symm; omega)
        have c5 : w2.cell? ⟨w.heap.size + 4, 0, none⟩ = some v := cell_of_row w2 _ 0 _ _ _ r2
        have f5 := frozen_of_row w2 _ 0 _ _ r2
        refine wpAnyIn_ready (rs := [4]) (by kernel_rfl) (by simp) ?_
        refine AllReadyIn.cons rfl (fun K hK => ?_) AllReadyIn.nil
        go_simp
        refine hK _ _ ?_
        clear hK
        refine wpAnyIn_done (by kernel_rfl) ?_ _
        have hfin := JJ.next hJ2 hwr hc2 hown hv2 (by omega) hown2 hg2 hat2
        rw [← hz0] at hfin
        exact ⟨hkr.trans hfin.1, hfin.2⟩
      refine AllReadyIn.cons rfl (fun K hK => ?_) AllReadyIn.nil
      go_simp
      refine ⟨trivial, ?_⟩
      refine (CallsIn.inRound l0 (callsIn_wide.2 (HP.out W2.drew HCR2.out))).mono ?_
      rintro e w' ⟨bp, op, rfl, hrdp, rfl⟩
      dsimp only
      refine hK _ _ ?_
      clear hK
      refine wpAnyIn_ready (rs := [0]) (by kernel_rfl) (by simp) ?_
      refine AllReadyIn.cons rfl (fun K hK => ?_) AllReadyIn.nil
      go_simp
      refine hK _ _ ?_
      clear hK
      refine wpAnyIn_ready (rs := [3]) (by kernel_rfl) (by simp) ?_
      refine AllReadyIn.cons (by simp only [List.getElem?_toArray, List.getElem?_cons_succ, List.getElem?_cons_zero]; rfl) (fun K hK => ?_) AllReadyIn.nil
      refine ite_yes rfl ?_
      refine ⟨fun _ _ => trivial, ?_⟩
      refine upon_app rfl (.tmp 31) (.tmp 33) _ _ rfl E_u8 (m := 48) rfl rfl hownd (hrdp.src Tryz.underlying86 (u8s_one _)) (by unfold maxLen; omega) (by omega) (show w.heap.size + 3 ≤ W2.heap.size by omega) ?_
      intro v2 w2 hown2 hg2 hat2
      refine hK _ _ ?_
      clear hK
      obtain ⟨A2, k2, rfl⟩ := ownsRow_form hown2
      have r2 := row_far (show W2.drew.heap[w.heap.size + 4]? = _ from hc2) hg2 (fun e => by have := hv2 _ e.symm; omega)
      have c5 : w2.cell? ⟨w.heap.size + 4, 0, none⟩ = some v := cell_of_row w2 _ 0 _ _ _ r2
      have f5 := frozen_of_row w2 _ 0 _ _ r2
      refine wpAnyIn_ready (rs := [4]) (by kernel_rfl) (by simp) ?_
      refine AllReadyIn.cons rfl (fun K hK => ?_) AllReadyIn.nil
      go_simp
      refine hK _ _ ?_
      clear hK
      refine wpAnyIn_done (by kernel_rfl) ?_ _
      have hfin := JJ.next hJ2 hwr hc2 hown hv2 (by omega) hown2 hg2 hat2
      rw [← hz0] at hfin
      exact ⟨hkr.trans hfin.1, hfin.2⟩
    · have q0 : (E != 0) = true := by simpa using hE0
      gi_wp2_with (first
        | (refine ⟨trivial, ?_⟩; gi_at_call 140; refine (CallsIn.inRound l0 (callsIn_wide.2 HWr.out)).mono ?_; rintro e W2 ⟨rfl, hb2⟩
           have hJ2 := hJ.below hb2
           have e1 : W2.cell? ⟨w.heap.size + 1, 0, none⟩ = some (.slice none 0 0) := cell_of_row W2 _ 0 _ _ _ hJ2.r1
           have e2 : W2.cell? ⟨w.heap.size + 1 + 1, 0, none⟩ = some (.int .i64 0) := cell_of_row W2 _ 0 _ _ _ hJ2.r2
           have f1 : W2.frozen? ⟨w.heap.size + 1, 0, none⟩ = false := frozen_of_row W2 _ 0 _ _ hJ2.r1
           have f2 : W2.frozen? ⟨w.heap.size + 1 + 1, 0, none⟩ = false := frozen_of_row W2 _ 0 _ _ hJ2.r2))
      have gs1 := setCell_grown W2 (w.heap.size + 1) (.slice none 0 0)
      have gs2 := setCell_grown (W2.setCell ⟨w.heap.size + 1, 0, none⟩ (.slice none 0 0)) (w.heap.size + 1 + 1) (.int .i64 E)
      have hz2 := hb2.size
      have hzs1 := gs1.size
      have r2 := row_far hJ2.r2 gs1 (fun e => by have := Option.some.inj e; omega)
      have hEk : errAt l m (x + 1) = E := by rw [errAt, if_neg (by rw [hJ.ok]; decide)]; exact HE.out.symm
      have hEK : errAt l m k = E := by rw [errAt_stays l m (x + 1) k (by omega) (by rw [hEk]; exact hE0), hEk]
      refine ⟨?_, rfl, by rw [hEK]; exact hE0, ?_, ?_, ?_⟩
      · rw [hz0]
        exact ((KeepsRec.below hb2 (by omega)).trans (KeepsRec.grown gs1 (by omega) (fun r hr => by have := Option.some.inj hr; omega))).trans (KeepsRec.grown gs2 (by omega) (fun r hr => by have := Option.some.inj hr; omega))
      · refine row_far ?_ gs2 (fun e => by have := Option.some.inj e; omega)
        rw [heap_setCell_same W2 (w.heap.size + 1) 0 _ _ _ hJ2.r1]; rfl
      · rw [hEK]
        have := heap_setCell_same (W2.setCell ⟨w.heap.size + 1, 0, none⟩ (.slice none 0 0)) (w.heap.size + 1 + 1) 0 _ _ (.int .i64 E) r2
        exact this
      · exact (hJ2.bel.grown gs1 hJ2.bel.size (fun q e => by have := Option.some.inj e; omega)).grown gs2 (Nat.le_trans hJ2.bel.size hzs1) (fun q e => by have := Option.some.inj e; omega)
  case done =>
    rintro W hJ hD
    obtain ⟨v, hc, hown, hv⟩ := hJ.cell
    obtain ⟨A', c', rfl⟩ := ownsRow_form hown
    have d8 : W.cell? ⟨w.heap.size + 1 + 1 + 1 + 1, 0, none⟩ = some (.slice A' (48 * k) c') := cell_of_row W _ 0 _ _ _ hc
    have e1 : W.cell? ⟨w.heap.size + 1, 0, none⟩ = some (.slice none 0 0) := cell_of_row W _ 0 _ _ _ hJ.r1
    have e2 : W.cell? ⟨w.heap.size + 1 + 1, 0, none⟩ = some (.int .i64 0) := cell_of_row W _ 0 _ _ _ hJ.r2
    have f1 : W.frozen? ⟨w.heap.size + 1, 0, none⟩ = false := frozen_of_row W _ 0 _ _ hJ.r1
    have f2 : W.frozen? ⟨w.heap.size + 1 + 1, 0, none⟩ = false := frozen_of_row W _ 0 _ _ hJ.r2
    rw [hz0] at hD ⊢
    have HH := Lib.hid h
    have HJ := Lib.hid hJ
    gi_wp2
    have gs1 := setCell_grown W (w.heap.size + 1) (.slice A' (48 * k) c')
    have gs2 := setCell_grown (W.setCell ⟨w.heap.size + 1, 0, none⟩ (.slice A' (48 * k) c')) (w.heap.size + 1 + 1) (.int .i64 0)
    obtain ⟨W9, hW9⟩ : ∃ W9, W9 = (W.setCell ⟨w.heap.size + 1, 0, none⟩ (.slice A' (48 * k) c')).setCell ⟨w.heap.size + 1 + 1, 0, none⟩ (.int .i64 0) := ⟨_, rfl⟩
    rw [← hW9] at gs2
    have hD9 : W9.heap[w.heap.size + 7]? = some (.deferred (some [])) := row_far (row_far hD gs1 (fun e => by have := Option.some.inj e; omega)) gs2 (fun e => by have := Option.some.inj e; omega)
    have r1 : W9.heap[w.heap.size + 1]? = some (.cells #[.slice A' (48 * k) c'] 86 (0, 0)) := by
      refine row_far ?_ gs2 (fun e => by have := Option.some.inj e; omega)
      rw [heap_setCell_same W (w.heap.size + 1) 0 _ _ _ hJ.r1]; rfl
    have r2 : W9.heap[w.heap.size + 1 + 1]? = some (.cells #[.int .i64 0] 29 (0, 0)) := by
      rw [hW9]
      exact heap_setCell_same (W.setCell ⟨w.heap.size + 1, 0, none⟩ (.slice A' (48 * k) c')) (w.heap.size + 1 + 1) 0 _ _ (.int .i64 0) (row_far hJ.r2 gs1 (fun e => by have := Option.some.inj e; omega))
    have gd := grownBy_putObj' W9 (w.heap.size + 7) (.deferred none)
    have ho9 : (W9.putObj (w.heap.size + 7) (.deferred none)).ownsRow (w.heap.size + 3) 5 1 (.slice A' (48 * k) c') (48 * k) (u8s (pieces l k)) := by
      have hb : ∀ q, q ≠ w.heap.size + 3 → q < w.heap.size + 9 → Value.ownBlock (.slice A' (48 * k) c') = none ∨ Value.ownBlock (.slice A' (48 * k) c') ≠ some q := fun q h1 h2 => by
        cases hk : Value.ownBlock (.slice A' (48 * k) c') with
        | none => exact .inl rfl
        | some p => exact .inr (fun e => by have := hv p hk; have := Option.some.inj e; omega)
      exact ((hown.kept gs1 (hb _ (by omega) (by omega))).kept gs2 (hb _ (by omega) (by omega))).kept gd (hb _ (by omega) (by omega))
    have hbel9 : Below w.heap.size w (W9.putObj (w.heap.size + 7) (.deferred none)) := ((hJ.bel.grown gs1 hJ.bel.size (fun q e => by have := Option.some.inj e; omega)).grown gs2 (Nat.le_trans hJ.bel.size gs1.size) (fun q e => by have := Option.some.inj e; omega)).grown gd (Nat.le_trans hJ.bel.size (Nat.le_trans gs1.size gs2.size)) (fun q e => by have := Option.some.inj e; omega)
    rw [← hW9]
    refine ⟨by simp, .inl ⟨_, _, rfl, run_takeDeferred hD9, ?_⟩⟩
    refine ⟨_, results_cell2 rfl _ rfl rfl (load_slice (cell_of_row _ _ 0 _ _ _ (row_far r1 gd (fun e => by have := Option.some.inj e; omega)))) (load_err (cell_of_row _ _ 0 _ _ _ (row_far r2 gd (fun e => by have := Option.some.inj e; omega)))), ?_⟩
    rw [HPP.out, if_neg (by rw [hJ.ok]; decide)]
    exact ⟨A', 48 * k, c', rfl, (pieces_len l k (by rw [HLN.out]; exact hnk)).symm, ownsRow_rd ho9, hbel9⟩
  case stop =>
    rintro cd W ⟨rfl, h1, h2, h3, h4⟩ hD
    rw [hz0] at hD ⊢
    gi_wp2
    have gd := grownBy_putObj' W (w.heap.size + 7) (.deferred none)
    refine ⟨by simp, .inl ⟨_, _, rfl, run_takeDeferred hD, ?_⟩⟩
    refine ⟨_, results_cell2 rfl _ rfl rfl (load_slice (cell_of_row _ _ 0 _ _ _ (row_far h2 gd (fun e => by have := Option.some.inj e; omega)))) (load_err (cell_of_row _ _ 0 _ _ _ (row_far h3 gd (fun e => by have := Option.some.inj e; omega)))), ?_⟩
    rw [HPP.out, if_pos h1]
    exact ⟨none, 0, 0, rfl, rfl, Rd.nil_, h4.grown gd h4.size (fun q e => by have := Option.some.inj e; omega)⟩

theorem joined_any (A : Option Addr) (n c k m : Nat) (l : List UInt8) (w : World) (h : Rd w w.heap.size 1 A n c (u8s l)) (hn : n ≤ 1000000) (hk1 : 1 ≤ k) (hk : k ≤ 2000) :
    Calls Tryz.prog 128 #[.slice A n c, .int .i64 (k : Int), .int .u64 (m : Int)] w (Tells w (joinedOf l k m).1 (joinedOf l k m).2) := by
  have hln : l.length = n := by have := h.len; rwa [u8s_len] at this
  by_cases hs : n < 64 * k
  · have e : joinedOf l k m = ([], 10) := by unfold joinedOf; rw [if_pos (by omega)]
    rw [e]
    exact joined_early A n c k m w hs hk
  · have e : joinedOf l k m = if errAt l m k ≠ 0 then ([], errAt l m k) else (pieces l k, 0) := by unfold joinedOf; rw [if_neg (by omega)]
    rw [e]
    exact joined_late A n c k m l w h hn hk1 hk (by omega)

end Go.Proofs.YtpalmobmabkadaaGreatDoor

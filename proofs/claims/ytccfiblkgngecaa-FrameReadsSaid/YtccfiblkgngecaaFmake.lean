/- frame.Make, and Sectors. -/
import Derived.Test.YtccfiblkgngecaaFparts
import Derived.Test.YtccfiblkgngecaaFzero
namespace Go.Proofs.Ytccfiblkgngecaa
open Go.RowKit

theorem sectors_any (n : Int) (w : World) (hw : (Lit.int .i64 n).wf = true) : Calls Try.prog 10 #[.int .i64 n] w fun e w' => e = .returned (.int .i64 ((sectorsOf n : Nat) : Int)) ∧ w = w' := by
  have HW := Lib.hid hw
  clear hw
  by_cases h0 : n < 0
  · have e : sectorsOf n = 0 := by unfold sectorsOf; rw [if_pos (.inl h0)]
    rw [e]
    go_enter Try.func10, Try.ntmps10
    go_wp2
    go_ret
    exact ⟨rfl, rfl⟩
  · have d0 : decide (n < 0) = false := by simpa using h0
    by_cases h1 : 65536 < n
    · have e : sectorsOf n = 0 := by unfold sectorsOf; rw [if_pos (.inr h1)]
      rw [e]
      have d1 : decide (65536 < n) = true := by simpa using h1
      clear h0 h1
      go_enter Try.func10, Try.ntmps10
      go_wp2
      go_ret
      exact ⟨rfl, rfl⟩
    · have d1 : decide (65536 < n) = false := by simpa using h1
      have hS := sealedLen_any n w (by omega) (by omega)
      have e : ((sectorsOf n : Nat) : Int) = (n + 55) / 48 := by unfold sectorsOf; rw [if_neg (by omega)]; omega
      rw [e]
      have hn0 : 0 ≤ n := by omega
      have hn1 : n ≤ 70000 := by omega
      clear h0 h1 e
      go_enter Try.func10, Try.ntmps10
      go_wp2_with (go_at_call 26; refine hS.mono ?_; rintro e w1 ⟨rfl, rfl⟩)
      go_ret
      refine ⟨congrArg (fun z => Ending.returned (Value.int .i64 z)) ?_, rfl⟩
      omega
theorem rsectors_any (n : Int) (w : World) (hw : (Lit.int .i64 n).wf = true) : Calls Try.prog 11 #[.int .i64 n] w fun e w' => e = .returned (.int .i64 ((sectorsOf n : Nat) : Int)) ∧ w = w' := by
  have HW := Lib.hid hw
  clear hw
  by_cases h0 : n < 0
  · have e : sectorsOf n = 0 := by unfold sectorsOf; rw [if_pos (.inl h0)]
    rw [e]
    go_enter Try.func11, Try.ntmps11
    go_wp2
    go_ret
    exact ⟨rfl, rfl⟩
  · have d0 : decide (n < 0) = false := by simpa using h0
    by_cases h1 : 65536 < n
    · have e : sectorsOf n = 0 := by unfold sectorsOf; rw [if_pos (.inr h1)]
      rw [e]
      have d1 : decide (65536 < n) = true := by simpa using h1
      clear h0 h1
      go_enter Try.func11, Try.ntmps11
      go_wp2
      go_ret
      exact ⟨rfl, rfl⟩
    · have d1 : decide (65536 < n) = false := by simpa using h1
      have e : ((sectorsOf n : Nat) : Int) = (n + 55) / 48 := by unfold sectorsOf; rw [if_neg (by omega)]; omega
      rw [e]
      have hn0 : 0 ≤ n := by omega
      have hn1 : n ≤ 70000 := by omega
      clear h0 h1 e
      go_enter Try.func11, Try.ntmps11
      go_wp2
      go_ret
      refine ⟨congrArg (fun z => Ending.returned (Value.int .i64 z)) ?_, rfl⟩
      omega

theorem puts_one (k x : Nat) : [] ++ puts k [x] = le k x := by simp [puts]
/-- What a text's pieces hold, one behind the other. -/
def bodyOf (l : List UInt8) (k : Nat) : List UInt8 := sealOf (le 4 l.length ++ l) ++ List.replicate (k * 48 - (l.length + 8)) 0
theorem sealOf_len (l : List UInt8) : (sealOf l).length = l.length + 4 := by simp [sealOf, le_len]
theorem bodyOf_len (l : List UInt8) (k : Nat) (h : l.length + 8 ≤ k * 48) : (bodyOf l k).length = k * 48 := by
  rw [bodyOf, List.length_append, sealOf_len, List.length_append, le_len, List.length_replicate]
  omega

set_option maxRecDepth 8000 in
theorem filled_any (A : Option Addr) (n c k : Nat) (l : List UInt8) (w : World) (h : Rd w w.heap.size 1 A n c (u8s l)) (hn : n ≤ 70000) (hk : n + 8 ≤ k * 48) (hk2 : k ≤ 2000) :
    Calls Try.prog 21 #[.slice A n c, .int .i64 (k : Int)] w fun e w' => ∃ v, e = .returned v ∧ w'.ownsRow w.heap.size 5 1 v (k * 48) (u8s (bodyOf l k)) ∧ Below w.heap.size w w' := by
  have hln : l.length = n := by have := h.len; rwa [u8s_len] at this
  subst hln
  obtain ⟨q, hq⟩ : ∃ q, k * 48 = l.length + 8 + q := ⟨k * 48 - (l.length + 8), by omega⟩
  have hqi : (k : Int) * 48 = (l.length : Int) + 8 + (q : Int) := by omega
  have e : bodyOf l k = sealOf (le 4 l.length ++ l) ++ List.replicate q 0 := by unfold bodyOf; congr 2; omega
  rw [hq, e]
  have HQ := Lib.hid hq
  have HK := Lib.hid hk
  have hk3 : (k : Int) ≤ 2000 := by omega
  have HQI := Lib.hid hqi
  clear e hq hk hqi
  go_enter Try.func21, Try.ntmps21
  go_wp2_with (first
    | (go_at_call 18; refine (put_good none _ 0 0 1 1 [] [l.length] 4 _ Rd.nil_ (Rd.lit w #[.int .u64 (l.length : Int)] _ rfl (by unfold maxLen; omega) (by simp)) (by omega) (by omega) (by omega)).mono ?_; rintro e w1 ⟨v1, rfl, hown1, hb1⟩
       rw [puts_one] at hown1
       have hb01 : Below w.heap.size w w1 := ((Below.refl _ _).alloc (Nat.le_refl _) _).trans (hb1.mono (by simp)))
    | (at_builtin; refine wpL_app (m := l.length) (y := .slice A l.length c) rfl (.tmp 11) (.tmp 12) _ _ rfl E_u8 rfl rfl (ownsRow_low hown1 (base' := w.heap.size) (by simp)) ((h.below hb01).src Try.underlying23 (u8s_one l)) (by unfold maxLen; omega) (by omega) hb01.size ?_; intro v2 w2 hown2 hg2 hat2
       have hb02 := hb01.grown hg2 hb01.size (fun j e => Nat.le_trans (by simp) (hown1.lt j e).1)
       obtain ⟨A2, c2, rfl⟩ := ownsRow_form hown2
       have hrd2 := ownsRow_rd hown2
       rw [← u8s_app] at hrd2)
    | (go_at_call 38; refine (seal_any _ _ _ _ _ hrd2 (by omega)).mono ?_; rintro e w3 ⟨v3, rfl, hown3, hb3⟩; obtain ⟨A3, c3, rfl⟩ := ownsRow_form hown3; have hb03 := hb02.trans (hb3.mono hb02.size))
    | (refine wpL_app0 (k := q) (o := ⟨some 21, _, _, _, _, _⟩) rfl (.tmp 15) (.tmp 20) _ _ rfl E_u8 Try.underlying3 rfl rfl (by have := HQI.out; omega) hown3 (by omega) (by rw [zeros_u8]; exact u8s_one _) (by have := HQ.out; unfold maxLen; omega) (by have := HQ.out; omega) (hb3.size) ?_; intro v4 w4 hown4 hg4)
    | fail)
  go_ret
  rw [zeros_u8, ← u8s_app] at hown4
  refine ⟨_, rfl, ?_, hb03.grown hg4 hb03.size (fun j e => Nat.le_trans hb02.size (hown3.lt j e).1)⟩
  have := ownsRow_low hown4 (base' := w.heap.size) hb02.size
  rw [show 0 + 1 * 4 + l.length + 4 + q = l.length + 8 + q from by omega] at this
  exact this

end Go.Proofs.Ytccfiblkgngecaa

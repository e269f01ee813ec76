/- CrcParts: the sum of two texts, one behind the other, is that of the first one, gone on with the other one: the law answers true for all bytes. -/
import Derived.Test.YthaijdgaleifaaaLivesb
import Derived.Test.YthaijdgaleifaaaRowkit
namespace Go.Proofs.Ythaijdgaleifaaa
open Go.RowKit

theorem crcParts_walk {w : World} (A : Option Addr) (n c : Nat) (l : List UInt8) (h : Rd w w.heap.size 1 A n c (u8s l)) (A2 : Option Addr) (n2 c2 : Nat) (l2 : List UInt8) (h2 : Rd w w.heap.size 1 A2 n2 c2 (u8s l2)) :
    Calls Try.prog 8 #[.slice A n c, .slice A2 n2 c2] w fun e w' => e = .returned (.bool true) ∧ Below w.heap.size w w' := by
  by_cases hn : n ≤ 1000 ∧ n2 ≤ 1000
  · obtain ⟨hn, hn2⟩ := hn
    have d1 : decide (1000 < n) = false := by simp; omega
    have d2 : decide (1000 < n2) = false := by simp; omega
    have hS := fun (A : Option Addr) (c : Nat) (w : World) (h : Rd w w.heap.size 1 A (n + n2) c (u8s (l ++ l2))) => sum_any A (n + n2) c _ w h (by omega)
    rw [← more_app] at hS
    have HS := Lib.hid hS
    clear hS
    have hm : Hid (more 0 l < 4294967296) := Lib.hid (sum_lt l)
    have q0 : (((more (more 0 l) l2 : Nat) : Int) == ((more (more 0 l) l2 : Nat) : Int)) = true := beq_self_eq_true _
    go_enter Try.func8, Try.ntmps8
    go_wp2_with (first
      | (go_at_call 29; (with_reducible refine (sum_any _ _ _ l _ h (by omega)).mono ?_); rintro e w1 ⟨rfl, hb1⟩; have hr1 := (h2.below hb1).more hb1.size)
      | (go_at_call 31; refine (more_any _ _ _ l2 _ _ hr1 hm (by omega)).mono ?_; rintro e w2 ⟨rfl, hb2⟩
         have hb02 := hb1.trans (hb2.mono hb1.size)
         have hrl := (h.below hb02).more hb02.size)
      | (at_builtin; refine wpL_app (o := ⟨some 20, _, _, _, _, _⟩) (v := .slice (some ⟨w2.heap.size, 0, none⟩) 0 0) (y := .slice A n c) rfl (.tmp 18) (.tmp 19) _ _ rfl E_u8 rfl rfl (World.ownsRow_lit (base := w2.heap.size) w2 #[] 0 (Nat.le_refl _) (Nat.zero_le _) rfl)
           ((hrl.below ((Below.refl _ _).alloc (Nat.le_refl _) _)).src Try.underlying22 (u8s_one _)) (by unfold maxLen; omega) (by omega) (by simp) ?_; intro v3 w3 hown3 hg3 hat3
         have hb23 : Below w2.heap.size w2 w3 := ((Below.refl _ _).alloc (Nat.le_refl _) _).grown hg3 (by simp) (fun j e => by cases e; exact Nat.le_refl _)
         have hb03 := hb02.trans (hb23.mono hb02.size)
         have hr3 := h2.below hb03
         rw [Nat.zero_add, Array.toList_empty, List.nil_append] at hown3)
      | (at_builtin; refine wpL_app (o := ⟨some 22, _, _, _, _, _⟩) (v := v3) (y := .slice A2 n2 c2) rfl (.tmp 20) (.tmp 21) _ _ rfl E_u8 rfl rfl hown3 (hr3.src Try.underlying22 (u8s_one _)) (by unfold maxLen; omega) (by omega) hb23.size ?_; intro v4 w4 hown4 hg4 hat4
         have hb24 : Below w2.heap.size w2 w4 := hb23.grown hg4 hb23.size (fun j e => (hown3.lt j e).1)
         have hb04 := hb02.trans (hb24.mono hb02.size)
         obtain ⟨A4, c4, rfl⟩ := ownsRow_form hown4
         rw [← u8s_app] at hown4
         have hr4 := ownsRow_rd hown4)
      | (go_at_call 29; (with_reducible refine (HS.out _ _ _ hr4).mono ?_); rintro e w5 ⟨rfl, hb5⟩
         have hb05 := hb04.trans (hb5.mono hb04.size))
      | (go_at_call 28; refine (lives2 _).mono ?_; rintro e wl ⟨rfl, hbl⟩))
    go_ret
    exact ⟨rfl, hb05.trans (hbl.mono hb05.size)⟩
  · by_cases hn1 : 1000 < n
    · have d1 : decide (1000 < n) = true := by simp; omega
      go_enter Try.func8, Try.ntmps8
      go_wp2_with (go_at_call 28; refine (lives2 _).mono ?_; rintro e wl ⟨rfl, hbl⟩)
      go_ret
      exact ⟨rfl, hbl⟩
    · have d1 : decide (1000 < n) = false := by simp; omega
      have d2 : decide (1000 < n2) = true := by simp; omega
      go_enter Try.func8, Try.ntmps8
      go_wp2_with (go_at_call 28; refine (lives2 _).mono ?_; rintro e wl ⟨rfl, hbl⟩)
      go_ret
      exact ⟨rfl, hbl⟩

namespace crcParts
open Go.ChangeShapes Go.WideShapes Go.ChangeAt
set_option maxRecDepth 100000 in
theorem lifted (os : Os) (started : os.Started) (H : Type) (enc : TypeId × Value → H) :
    ReturnsInHanded {} Try.checked os 8 .any (Rows.crcPartsSpec.pre6 enc Try.prog Try.f8 Rows.crcPartsRow.domain false) (Rows.crcPartsSpec.post enc Try.prog Try.f8 false true false false) := by
  refine returnsInHanded_of_change (C := Try.checked) own started (by kernel_rfl) Try.func8
    (ChangeSpec.witness6 (enc := enc) (C := Try.checked) false ⟨#[], #[.slice none 0 0, .slice none 0 0], []⟩ 8 (by kernel_rfl) (by kernel_rfl) (by kernel_rfl) (by kernel_rfl)) ?_
  intro W base args ds gs before hval0 hW _ _
  have hval : ∀ (j : Nat) t v, Try.f8.params[j]? = some t → args[j]? = some v → Value.okWide Try.prog W .any base t v := hval0
  have hW' := hW
  obtain ⟨p, q, hA0, hV, rfl, hfz, hnd⟩ := hW
  have hA : DataW.TrodAll enc Try.prog W 0 (fun _ => true) true Try.f8.params.toList args.toList ds p := hA0
  rw [Try.params8] at hA hval
  obtain ⟨v0, vs0, d0, ds0, p0, q0, hargs, rfl, rfl, h0, r0⟩ := trodAll_cons hA
  obtain ⟨v1, vs1, d1, ds1, p1, q1, rfl, rfl, rfl, h1, r1⟩ := trodAll_cons r0
  obtain ⟨rfl, rfl, rfl⟩ := trodAll_nil r1
  obtain rfl : args = #[v0, v1] := by cases args; simp_all
  obtain ⟨rfl, rfl⟩ := trodVars_none hV
  have k0 := h0
  have lt0 : ∀ x ∈ p0, x.block < W.heap.size := by obtain ⟨m, hm⟩ := k0; exact DataW.trod_lt m _ _ _ hm
  obtain ⟨a0, n0, c0, l0, rfl, w0⟩ := dec_bytes Try.underlying22 Try.underlying5 (by kernel_rfl) (hval 0 22 v0 rfl rfl) h0
  have k1 := h1
  have lt1 : ∀ x ∈ p1, x.block < W.heap.size := by obtain ⟨m, hm⟩ := k1; exact DataW.trod_lt m _ _ _ hm
  obtain ⟨a1, n1, c1, l1, rfl, w1⟩ := dec_bytes Try.underlying22 Try.underlying5 (by kernel_rfl) (hval 1 22 v1 rfl rfl) h1
  clear hA0 hval0
  refine (crcParts_walk a0 n0 c0 l0 w0 a1 n1 c1 l1 w1).mono fun e W' ⟨he, bel⟩ => ?_
  subst he
  exact ⟨_, rfl, _, _, _, [], _, [], hW', trodAll_mk1 (shut_bool Try.underlying4 _), (trodAll_cons_mk (Below.trod laidOut (by kernel_rfl) (of_decide_eq_true (by kernel_rfl)) k0 bel lt0) (trodAll_cons_mk (Below.trod laidOut (by kernel_rfl) (of_decide_eq_true (by kernel_rfl)) k1 bel lt1) trodAll_mk0)), rfl, bel.frame _, fun h => by cases h⟩

theorem over : Rows.crcPartsRow.holds Try.pinned (OpenSpec.ofChange Rows.crcPartsSpec) :=
  OpenClaim.holds_of_wide 8 Try.f8 rfl rfl rfl rfl rfl rfl rfl ⟨rfl, rfl, rfl, rfl, rfl⟩ rfl rfl rfl rfl rfl (by kernel_rfl) Try.func8 (by kernel_rfl)
    (of_decide_eq_true (by kernel_rfl)) (by unfold Func.isWrapper; first | (rw [if_pos (by decide +kernel)]; kernel_rfl) | (rw [if_neg (by decide +kernel)]; exact ⟨rfl, rfl⟩))
    (fun os started H enc _ => lifted os started H enc)
/-- The given statement. -/
theorem proved : Rows.CrcPartsSaid := over
end crcParts

end Go.Proofs.Ythaijdgaleifaaa

/- CrcSums: any bytes have the document's sum, and any sum goes on with them as it says: the law answers true for all bytes and sums. -/
import Derived.Test.YthaijdgaleifaaaLivesb
import Derived.Test.YthaijdgaleifaaaRowkit
namespace Go.Proofs.Ythaijdgaleifaaa
open Go.RowKit

theorem crcSums_walk {w : World} (A : Option Addr) (n c : Nat) (l : List UInt8) (h : Rd w w.heap.size 1 A n c (u8s l)) (x : Int) (hx : (Lit.int .u32 x).wf = true) :
    Calls Try.prog 7 #[.slice A n c, .int .u32 x] w fun e w' => e = .returned (.bool true) ∧ Below w.heap.size w w' := by
  by_cases hn : n ≤ 1000
  · simp [Lit.wf, IntKind.min, IntKind.max, IntKind.signed, IntKind.bits] at hx
    obtain ⟨m, rfl⟩ := Int.eq_ofNat_of_zero_le hx.1
    have hm := Lib.hid (show m < 4294967296 by omega)
    clear hx
    have d : decide (1000 < n) = false := by simp; omega
    have q0 : (((more 0 l : Nat) : Int) == ((more 0 l : Nat) : Int)) = true := beq_self_eq_true _
    have q1 : (((more m l : Nat) : Int) == ((more m l : Nat) : Int)) = true := beq_self_eq_true _
    go_enter Try.func7, Try.ntmps7
    go_wp2_with (first
      | (go_at_call 29; refine (sum_any _ _ _ l _ h (by omega)).mono ?_; rintro e w1 ⟨rfl, hb1⟩; have hr1 := (h.below hb1).more hb1.size)
      | (go_at_call 30; refine (rsum_any _ _ _ l _ hr1 (by omega)).mono ?_; rintro e w2 ⟨rfl, rfl⟩)
      | (go_at_call 31; refine (more_any _ _ _ l m _ hr1 hm (by omega)).mono ?_; rintro e w3 ⟨rfl, hb3⟩; have hr3 := (hr1.below hb3).more hb3.size)
      | (go_at_call 32; refine (rmore_any _ _ _ l m _ hr3 hm (by omega)).mono ?_; rintro e w4 ⟨rfl, rfl⟩)
      | (go_at_call 28; refine (lives2 _).mono ?_; rintro e wl ⟨rfl, hbl⟩))
    go_ret
    have h13 := hb1.trans (hb3.mono hb1.size)
    exact ⟨rfl, h13.trans (hbl.mono h13.size)⟩
  · have d : decide (1000 < n) = true := by simp; omega
    go_enter Try.func7, Try.ntmps7
    go_wp2_with (go_at_call 28; refine (lives2 _).mono ?_; rintro e wl ⟨rfl, hbl⟩)
    go_ret
    exact ⟨rfl, hbl⟩

namespace crcSums
open Go.ChangeShapes Go.WideShapes Go.ChangeAt
set_option maxRecDepth 100000 in
theorem lifted (os : Os) (started : os.Started) (H : Type) (enc : TypeId × Value → H) :
    ReturnsInHanded {} Try.checked os 7 .any (Rows.crcSumsSpec.pre6 enc Try.prog Try.f7 Rows.crcSumsRow.domain false) (Rows.crcSumsSpec.post enc Try.prog Try.f7 false true false false) := by
  refine returnsInHanded_of_change (C := Try.checked) own started (by kernel_rfl) Try.func7
    (ChangeSpec.witness6 (enc := enc) (C := Try.checked) false ⟨#[], #[.slice none 0 0, .int .u32 0], []⟩ 8 (by kernel_rfl) (by kernel_rfl) (by kernel_rfl) (by kernel_rfl)) ?_
  intro W base args ds gs before hval0 hW _ _
  have hval : ∀ (j : Nat) t v, Try.f7.params[j]? = some t → args[j]? = some v → Value.okWide Try.prog W .any base t v := hval0
  have hW' := hW
  obtain ⟨p, q, hA0, hV, rfl, hfz, hnd⟩ := hW
  have hA : DataW.TrodAll enc Try.prog W 0 (fun _ => true) true Try.f7.params.toList args.toList ds p := hA0
  rw [Try.params7] at hA hval
  obtain ⟨v0, vs0, d0, ds0, p0, q0, hargs, rfl, rfl, h0, r0⟩ := trodAll_cons hA
  obtain ⟨v1, vs1, d1, ds1, p1, q1, rfl, rfl, rfl, h1, r1⟩ := trodAll_cons r0
  obtain ⟨rfl, rfl, rfl⟩ := trodAll_nil r1
  obtain rfl : args = #[v0, v1] := by cases args; simp_all
  obtain ⟨rfl, rfl⟩ := trodVars_none hV
  have k0 := h0
  have lt0 : ∀ x ∈ p0, x.block < W.heap.size := by obtain ⟨m, hm⟩ := k0; exact DataW.trod_lt m _ _ _ hm
  obtain ⟨a0, n0, c0, l0, rfl, w0⟩ := dec_bytes Try.underlying22 Try.underlying5 (by kernel_rfl) (hval 0 22 v0 rfl rfl) h0
  have k1 := h1
  have lt1 : ∀ x ∈ p1, x.block < W.heap.size := by obtain ⟨m, hm⟩ := k1; exact DataW.trod_lt m _ _ _ hm
  obtain ⟨x1, rfl, w1⟩ := dec_int Try.underlying54 (hval 1 54 v1 rfl rfl) h1
  clear hA0 hval0
  refine (crcSums_walk a0 n0 c0 l0 w0 x1 w1).mono fun e W' ⟨he, bel⟩ => ?_
  subst he
  exact ⟨_, rfl, _, _, _, [], _, [], hW', trodAll_mk1 (shut_bool Try.underlying4 _), (trodAll_cons_mk (Below.trod laidOut (by kernel_rfl) (of_decide_eq_true (by kernel_rfl)) k0 bel lt0) (trodAll_cons_mk (Below.trod laidOut (by kernel_rfl) (of_decide_eq_true (by kernel_rfl)) k1 bel lt1) trodAll_mk0)), rfl, bel.frame _, fun h => by cases h⟩

theorem over : Rows.crcSumsRow.holds Try.pinned (OpenSpec.ofChange Rows.crcSumsSpec) :=
  OpenClaim.holds_of_wide 7 Try.f7 rfl rfl rfl rfl rfl rfl rfl ⟨rfl, rfl, rfl, rfl, rfl⟩ rfl rfl rfl rfl rfl (by kernel_rfl) Try.func7 (by kernel_rfl)
    (of_decide_eq_true (by kernel_rfl)) (by unfold Func.isWrapper; first | (rw [if_pos (by decide +kernel)]; kernel_rfl) | (rw [if_neg (by decide +kernel)]; exact ⟨rfl, rfl⟩))
    (fun os started H enc _ => lifted os started H enc)
/-- The given statement. -/
theorem proved : Rows.CrcSumsSaid := over
end crcSums

end Go.Proofs.Ythaijdgaleifaaa

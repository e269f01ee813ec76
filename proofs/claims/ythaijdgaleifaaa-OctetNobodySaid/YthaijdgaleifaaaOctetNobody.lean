/- OctetNobody: a reader that is nil reads nothing, and one that no call made has no bytes: the law answers true for every call that is handed in. -/
import Derived.Test.YthaijdgaleifaaaLivesa
import Derived.Test.YthaijdgaleifaaaRowkit
namespace Go.Proofs.Ythaijdgaleifaaa
open Go.RowKit

theorem bare_num (g : Nat) (w : World) (h : Rdr w g ⟨[], false⟩) :
    Calls Try.prog 16 #[.pointer (some ⟨g, 0, none⟩), .int .i64 1] w fun e w' => e = .returned (.int .u64 0) ∧ Rdr w' g ⟨[], true⟩ ∧ w.grownBy w' (some g) := num_all g ⟨[], false⟩ 1 w h
theorem bare_bad (g : Nat) (w : World) (h : Rdr w g ⟨[], true⟩) :
    Calls Try.prog 25 #[.pointer (some ⟨g, 0, none⟩)] w fun e w' => e = .returned (.bool true) ∧ w = w' := bad_any g ⟨[], true⟩ w h
theorem bare_end (g : Nat) (w : World) (h : Rdr w g ⟨[], true⟩) :
    Calls Try.prog 26 #[.pointer (some ⟨g, 0, none⟩)] w fun e w' => e = .returned (.int .i64 10) ∧ w = w' := end_any g ⟨[], true⟩ w h

theorem text_nil0 (w : World) : Calls Try.prog 20 #[.pointer none] w fun e w' => e = .returned (.string { data := #[] }) ∧ w = w' := text_nil w
theorem bare_new (w : World) : Rdr (w.alloc (.cells #[.string { data := #[] }, .bool false] 52)) w.heap.size ⟨[], false⟩ := ⟨heap_alloc_new w _, by simp⟩
theorem octetNobody_walk {w : World} (k n : Int) (_ : (Lit.int .i64 k).wf = true) (_ : (Lit.int .i64 n).wf = true) :
    Calls Try.prog 6 #[.agg #[.int .i64 k, .int .i64 n]] w fun e w' => e = .returned (.bool true) ∧ Below w.heap.size w w' := by
  go_enter Try.func6, Try.ntmps6
  go_wp2_with (first
    | (go_at_call 22; (with_reducible refine (fail_nil _).mono ?_); rintro e w1 ⟨rfl, rfl⟩)
    | (go_at_call 16; (with_reducible refine (num_nil _ _).mono ?_); rintro e w1 ⟨rfl, rfl⟩)
    | (go_at_call 18; (with_reducible refine (take_nil _ _).mono ?_); rintro e w1 ⟨v, rfl, hown, hb⟩; obtain ⟨A, c, rfl⟩ := ownsRow_form hown)
    | (go_at_call 20; (with_reducible refine (text_nil0 _).mono ?_); rintro e w1 ⟨rfl, rfl⟩)
    | (go_at_call 23; (with_reducible refine (left_nil _).mono ?_); rintro e w1 ⟨rfl, rfl⟩)
    | (go_at_call 25; (with_reducible refine (bad_nil _).mono ?_); rintro e w1 ⟨rfl, rfl⟩)
    | (go_at_call 26; (with_reducible refine (end_nil _).mono ?_); rintro e w1 ⟨rfl, rfl⟩)
    | fail)
  have hR0 := bare_new w1
  refine (lives_end _ _ hR0).mono ?_
  rintro e w2 ⟨rfl, rfl⟩
  go_wp2_with (first
    | (go_at_call 16; refine (bare_num _ _ hR0).mono ?_; rintro e w3 ⟨rfl, hR3, hg3⟩)
    | (go_at_call 25; refine (bare_bad _ _ hR3).mono ?_; rintro e w4 ⟨rfl, rfl⟩)
    | (go_at_call 26; refine (bare_end _ _ hR3).mono ?_; rintro e w5 ⟨rfl, rfl⟩)
    | (go_at_call 10; refine (lives1 _).mono ?_; rintro e w6 ⟨rfl, hb6⟩))
  go_ret
  refine ⟨rfl, ?_⟩
  have hz := hb.size
  have h3 : Below w.heap.size w w3 := ((((Below.refl _ _).alloc (Nat.le_refl _) _).trans (hb.mono (by simp))).alloc (by simp at hz; omega) _).grown hg3 (by simp at hz ⊢; omega) (fun k e => by cases e; simp at hz; omega)
  exact h3.trans (hb6.mono h3.size)

namespace octetNobody
open Go.ChangeShapes Go.WideShapes Go.ChangeAt
set_option maxRecDepth 100000 in
theorem lifted (os : Os) (started : os.Started) (H : Type) (enc : TypeId × Value → H) :
    ReturnsInHanded {} Try.checked os 6 .any (Rows.octetNobodySpec.pre6 enc Try.prog Try.f6 Rows.octetNobodyRow.domain false) (Rows.octetNobodySpec.post enc Try.prog Try.f6 false true false false) := by
  refine returnsInHanded_of_change (C := Try.checked) own started (by kernel_rfl) Try.func6
    (ChangeSpec.witness6 (enc := enc) (C := Try.checked) false ⟨#[], #[.agg #[.int .i64 0, .int .i64 0]], []⟩ 8 (by kernel_rfl) (by kernel_rfl) (by kernel_rfl) (by kernel_rfl)) ?_
  intro W base args ds gs before hval0 hW _ _
  have hval : ∀ (j : Nat) t v, Try.f6.params[j]? = some t → args[j]? = some v → Value.okWide Try.prog W .any base t v := hval0
  have hW' := hW
  obtain ⟨p, q, hA0, hV, rfl, hfz, hnd⟩ := hW
  have hA : DataW.TrodAll enc Try.prog W 0 (fun _ => true) true Try.f6.params.toList args.toList ds p := hA0
  rw [Try.params6] at hA hval
  obtain ⟨v0, vs0, d0, ds0, p0, q0, hargs, rfl, rfl, h0, r0⟩ := trodAll_cons hA
  obtain ⟨rfl, rfl, rfl⟩ := trodAll_nil r0
  obtain rfl : args = #[v0] := by cases args; simp_all
  obtain ⟨rfl, rfl⟩ := trodVars_none hV
  have k0 := h0
  have lt0 : ∀ x ∈ p0, x.block < W.heap.size := by obtain ⟨m, hm⟩ := k0; exact DataW.trod_lt m _ _ _ hm
  obtain ⟨x0, y0, rfl, w0, u0⟩ := dec_ints2 Try.underlying40 (by kernel_rfl) (by kernel_rfl) Try.underlying3 Try.underlying3 (hval 0 40 v0 rfl rfl) h0
  clear hA0 hval0
  refine (octetNobody_walk x0 y0 w0 u0).mono fun e W' ⟨he, bel⟩ => ?_
  subst he
  exact ⟨_, rfl, _, _, _, [], _, [], hW', trodAll_mk1 (shut_bool Try.underlying4 _), (trodAll_cons_mk (Below.trod laidOut (by kernel_rfl) (of_decide_eq_true (by kernel_rfl)) k0 bel lt0) trodAll_mk0), rfl, bel.frame _, fun h => by cases h⟩

theorem over : Rows.octetNobodyRow.holds Try.pinned (OpenSpec.ofChange Rows.octetNobodySpec) :=
  OpenClaim.holds_of_wide 6 Try.f6 rfl rfl rfl rfl rfl rfl rfl ⟨rfl, rfl, rfl, rfl, rfl⟩ rfl rfl rfl rfl rfl (by kernel_rfl) Try.func6 (by kernel_rfl)
    (of_decide_eq_true (by kernel_rfl)) (by unfold Func.isWrapper; first | (rw [if_pos (by decide +kernel)]; kernel_rfl) | (rw [if_neg (by decide +kernel)]; exact ⟨rfl, rfl⟩))
    (fun os started H enc _ => lifted os started H enc)
/-- The given statement. -/
theorem proved : Rows.OctetNobodySaid := over
end octetNobody

end Go.Proofs.Ythaijdgaleifaaa

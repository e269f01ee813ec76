/- DeviceNobody: a device that is nil does nothing, and one that no call made has no sectors: the law answers true for every call. -/
import Derived.Test.YtohpfnnmmhlneaaDevl
import Derived.Test.YtohpfnnmmhlneaaRowkitc
namespace Go.Proofs.Ytohpfnnmmhlneaa
open Go.RowKit

theorem bare_read (g : Nat) (x : Int) (w : World) (b : Nat) (h : w.heap[g]? = some (.cells (bareRow2 b) 53 (0, 0))) :
    Calls Try.prog 13 #[.pointer (some ⟨g, 0, none⟩), .int .i64 x, .int .i64 1] w fun e w' => e = .returned (.tuple #[.slice none 0 0, .int .i64 30]) ∧ w = w' :=
  read_out g 0 x 1 w (cell_of_row w g 0 _ _ _ h) (cell_of_row w g 4 _ _ _ h) (by omega) (by omega) (by unfold withinB; simp; omega)
theorem bare_write (g : Nat) (x : Int) (w : World) (b : Nat) (A : Option Addr) (c : Nat) (h : w.heap[g]? = some (.cells (bareRow2 b) 53 (0, 0))) :
    Calls Try.prog 16 #[.pointer (some ⟨g, 0, none⟩), .int .i64 x, .slice A 1 c] w fun e w' => e = .returned (.int .i64 30) ∧ Below w.heap.size w w' :=
  write_out g 0 x A 1 c w (cell_of_row w g 0 _ _ _ h) (cell_of_row w g 4 _ _ _ h) (by omega) (by omega) (by unfold withinB; simp; omega)

set_option maxHeartbeats 4000000 in
set_option maxRecDepth 8000 in
theorem deviceNobody_at (k x n : Int) (A A2 : Option Addr) (bn bc kn kc : Nat) (w : World) :
    Calls Try.prog 6 #[.agg #[.int .i64 k, .int .i64 x, .int .i64 n, .slice A bn bc, .slice A2 kn kc]] w fun e w' => e = .returned (.bool true) ∧ Below w.heap.size w w' := by
  obtain ⟨W0, hW0⟩ : ∃ W0, W0 = w.alloc (.cells #[.int .i64 k, .int .i64 x, .int .i64 n, .slice A bn bc, .slice A2 kn kc] 33) := ⟨_, rfl⟩
  obtain ⟨b0, hb0⟩ : ∃ b0, b0 = w.heap.size := ⟨_, rfl⟩
  have hr0 : W0.heap[b0]? = some (.cells #[.int .i64 k, .int .i64 x, .int .i64 n, .slice A bn bc, .slice A2 kn kc] 33 (0, 0)) := by rw [hW0, hb0]; exact heap_alloc_new w _
  have hbb : Below w.heap.size w W0 := by rw [hW0]; exact (Below.refl _ _).alloc (Nat.le_refl _) _
  have HR0 := Lib.hid hr0
  have HBB := Lib.hid hbb
  have HW0 := Lib.hid hW0
  have HB0 := Lib.hid hb0
  clear hr0 hbb hW0 hb0
  go_enter Try.func6, Try.ntmps6
  go_wp2_with (first
    | (go_at_call 18; refine (fuse_nil _ _).mono ?_; rintro e w1 ⟨rfl, rfl⟩)
    | (go_at_call 15; with_reducible refine (crash_nil _ _ _ _).mono ?_; rintro e w1 ⟨rfl, rfl⟩)
    | (go_at_call 13; with_reducible refine (read_nil _ _ _).mono ?_; rintro e w1 ⟨rfl, rfl⟩)
    | (go_at_call 16; rw [← HW0.out]; with_reducible refine (write_nil _ _ _ _ _).mono ?_; rintro e w1 ⟨rfl, hb1⟩
       have HB1 := Lib.hid hb1
       have hr1 := ((hb1.block b0 (Array.getElem?_eq_some_iff.1 HR0.out).1).trans HR0.out)
       have HR1 := Lib.hid hr1
       have k1 : w1.cell? ⟨b0, 1, none⟩ = some (.int .i64 x) := cell_of_row w1 b0 1 _ _ _ hr1
       have k2 : w1.cell? ⟨w.heap.size, 1, none⟩ = some (.int .i64 x) := by rw [← HB0.out]; exact k1
       clear hb1 hr1)
    | (go_at_call 12; refine (flush_nil _).mono ?_; rintro e w2 ⟨rfl, rfl⟩)
    | (go_at_call 17; refine (down_nil _).mono ?_; rintro e w2 ⟨rfl, rfl⟩)
    | (go_at_call 21; refine (sectors_nil _).mono ?_; rintro e w2 ⟨rfl, rfl⟩)
    | (go_at_call 22; refine (loose_nil _).mono ?_; rintro e w2 ⟨rfl, rfl⟩)
    | (go_at_call 23; refine (done_nil _).mono ?_; rintro e w2 ⟨rfl, rfl⟩)
    | (go_at_call 19; refine (clone_nil _).mono ?_; rintro e w2 ⟨rfl, rfl⟩)
    | (go_at_call 20; with_reducible refine (same_nils _).mono ?_; rintro e w2 ⟨rfl, rfl⟩)
    | (go_at_call 15
       obtain ⟨wb, hwb⟩ : ∃ W, W = w1.alloc (.cells bareRow 53) := ⟨_, rfl⟩
       have hr2 : wb.heap[w1.heap.size]? = some (.cells bareRow 53 (0, 0)) := by rw [hwb]; exact heap_alloc_new w1 _
       change Calls _ _ _ (w1.alloc (.cells bareRow 53)) _
       rw [← hwb]
       obtain ⟨g, hg⟩ : ∃ g, g = w1.heap.size := ⟨_, rfl⟩
       rw [← hg] at hr2 ⊢
       refine (crash_bare wb g hr2).mono ?_
       rintro e w3 ⟨rfl, hr3, hg3⟩
       have hb3 : Below w1.heap.size w1 w3 := by
         refine Below.grown ?_ hg3 ?_ ?_
         · rw [hwb]; exact (Below.refl _ _).alloc (Nat.le_refl _) _
         · rw [hwb]; simp
         · intro q e; cases e; omega
       have HR3 := Lib.hid hr3
       have HB3 := Lib.hid hb3
       have HG := Lib.hid hg
       have k3 : w3.cell? ⟨w.heap.size, 1, none⟩ = some (.int .i64 x) := (hb3.cell (p := ⟨w.heap.size, 1, none⟩) (block_lt_of_cell k2)).trans k2
       clear hr3 hb3 hg hg3 hr2 hwb)
    | (go_at_call 13; with_reducible refine (bare_read g x _ _ HR3.out).mono ?_; rintro e w4 ⟨rfl, rfl⟩)
    | (go_at_call 16
       obtain ⟨wc, hwc⟩ : ∃ W, W = w3.alloc (.cells #[.int .u8 1] 5) := ⟨_, rfl⟩
       rw [← hwc]
       have hr4 : wc.heap[g]? = some (.cells (bareRow2 wb.heap.size) 53 (0, 0)) := by
         rw [hwc]; exact (row_far HR3.out (World.grownBy_alloc w3 _ none) (fun e => by cases e))
       have hb4 : Below w1.heap.size w1 wc := by rw [hwc]; exact HB3.out.alloc HB3.out.size _
       refine (bare_write g x _ _ _ _ hr4).mono ?_
       rintro e w5 ⟨rfl, hb5⟩
       have HB5 := Lib.hid (hb4.trans (hb5.mono hb4.size))
       clear hr4 hb4 hb5 hwc)
    | (go_at_call 20; with_reducible refine (same_nil g _).mono ?_; rintro e w6 ⟨rfl, rfl⟩)
    | (go_at_call 8; refine (dlives _).mono ?_; rintro e w7 ⟨rfl, hb7⟩)
    | fail)
  go_ret
  have h1 : Below w.heap.size w w1 := HBB.out.trans (HB1.out.mono HBB.out.size)
  have h5 : Below w.heap.size w w5 := h1.trans (HB5.out.mono h1.size)
  exact ⟨rfl, h5.trans (hb7.mono h5.size)⟩

theorem deviceNobody_walk {w : World} (o : Opd) (_ho : o.Reads w) : Calls Try.prog 6 #[.agg o.cells] w fun e w' => e = .returned (.bool true) ∧ Below w.heap.size w w' :=
  deviceNobody_at o.kind o.at_ o.n o.A o.A2 o.bn o.bc o.kn o.kc w

namespace deviceNobody
open Go.ChangeShapes Go.WideShapes Go.ChangeAt
set_option maxRecDepth 100000 in
theorem lifted (os : Os) (started : os.Started) (H : Type) (enc : TypeId × Value → H) :
    ReturnsInHanded {} Try.checked os 6 .any (Rows.deviceNobodySpec.pre6 enc Try.prog Try.f6 Rows.deviceNobodyRow.domain false) (Rows.deviceNobodySpec.post enc Try.prog Try.f6 false true false false) := by
  refine returnsInHanded_of_change (C := Try.checked) own started (by kernel_rfl) Try.func6
    (ChangeSpec.witness6 (enc := enc) (C := Try.checked) false ⟨#[], #[.agg #[.int .i64 0, .int .i64 0, .int .i64 0, .slice none 0 0, .slice none 0 0]], []⟩ 8 (by kernel_rfl) (by kernel_rfl) (by kernel_rfl) (by kernel_rfl)) ?_
  intro W base args ds gs before hval0 hW _ _
  have hval : ∀ (j : Nat) t v, Try.f6.params[j]? = some t → args[j]? = some v → Value.okWide Try.prog W .any base t v := hval0
  have hW' := hW
  obtain ⟨p, q, hA0, hV, rfl, hfz, hnd⟩ := hW
  have hA : DataW.TrodAll enc Try.prog W 0 (fun _ => true) true Try.f6.params.toList args.toList ds p := hA0
  rw [Try.params6] at hA hval
  obtain ⟨v0, vs0, d0, ds0, p0, q0, hargs, rfl, rfl, h0, r0⟩ := trodAll_cons hA
  obtain ⟨rfl, rfl, rfl⟩ := trodAll_nil r0
  obtain rfl : args = #[v0] := by cases args; simp_all
  obtain ⟨rfl, rfl⟩ := trodVars_none hV
  have k0 := h0
  have lt0 : ∀ x ∈ p0, x.block < W.heap.size := by obtain ⟨m, hm⟩ := k0; exact DataW.trod_lt m _ _ _ hm
  obtain ⟨o0, rfl, w0⟩ := dec_op Try.underlying33 (by kernel_rfl) (by kernel_rfl) Try.underlying3 Try.underlying3 Try.underlying3 Try.underlying31 Try.underlying5 (by kernel_rfl) Try.underlying23 Try.underlying3 (by kernel_rfl) (hval 0 33 v0 rfl rfl) h0
  clear hA0 hval0
  refine (deviceNobody_walk o0 w0).mono fun e W' ⟨he, bel⟩ => ?_
  subst he
  exact ⟨_, rfl, _, _, _, [], _, [], hW', trodAll_mk1 (shut_bool Try.underlying4 _), (trodAll_cons_mk (Below.trod laidOut (by kernel_rfl) (of_decide_eq_true (by kernel_rfl)) k0 bel lt0) trodAll_mk0), rfl, bel.frame _, fun h => by cases h⟩

theorem over : Rows.deviceNobodyRow.holds Try.pinned (OpenSpec.ofChange Rows.deviceNobodySpec) :=
  OpenClaim.holds_of_wide 6 Try.f6 rfl rfl rfl rfl rfl rfl rfl ⟨rfl, rfl, rfl, rfl, rfl⟩ rfl rfl rfl rfl rfl (by kernel_rfl) Try.func6 (by kernel_rfl)
    (of_decide_eq_true (by kernel_rfl)) (by unfold Func.isWrapper; first | (rw [if_pos (by decide +kernel)]; kernel_rfl) | (rw [if_neg (by decide +kernel)]; exact ⟨rfl, rfl⟩))
    (fun os started H enc _ => lifted os started H enc)
/-- The given statement. -/
theorem proved : Rows.DeviceNobodySaid := over
end deviceNobody

end Go.Proofs.Ytohpfnnmmhlneaa

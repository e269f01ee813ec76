/- VowNobody: a vow that no call made promises nothing, and there is none on no device: the law answers true for every call and every base. -/
import Derived.Test.YteakdmabdfpiiaaVowf
import Derived.Test.YteakdmabdfpiiaaVopd
import Derived.Test.YteakdmabdfpiiaaSegsZ
import Derived.LoopN
import Derived.Deep.DeepCutAuto
import Derived.Deep.CutBlock
namespace Go.Proofs.Yteakdmabdfpiiaa
set_option maxRecDepth 20000
open Go.RowKit

theorem vopn_refused {w : World} (G : Option Addr) (base : Int) (E : Int) (hE : E ≠ 0)
    (HR : Calls Try.prog 33 #[.pointer G, .int .i64 base, .int .i64 2] w fun e w' => e = .returned (.tuple #[.slice none 0 0, .int .i64 E]) ∧ w = w') :
    Calls Try.prog 28 #[.pointer G, .int .i64 base] w fun e w' => e = .returned (.tuple #[.pointer none, .int .i64 E]) ∧ w = w' := by
  have HO := Lib.hid (twopen_refused (w := w) G base 1 E hE (fun s hs => by rw [hs]; exact HR))
  have q1 : (E == 0) = false := by simpa using hE
  clear HR hE
  go_enter Try.func28, Try.ntmps28
  go_wp2_with (first
    | (go_at_call 13; refine HO.out.mono ?_; rintro e w1 ⟨rfl, rfl⟩)
    | fail)
  go_ret2
  exact ⟨rfl, rfl⟩
theorem dlx_read_out {X : Nat → Prop} {w W : World} {B g M : Nat} {d : Dv} (h : Dlx X w W B g M d) (hd : d.down = false) (x m : Int) (hm : m ≤ 9223372036854775807) (hout : withinB d.n x m = false) :
    Calls Try.prog 33 #[.pointer (some ⟨g, 0, none⟩), .int .i64 x, .int .i64 m] W fun e w' => e = .returned (.tuple #[.slice none 0 0, .int .i64 30]) ∧ W = w' := by
  obtain ⟨N, ⟨bs, bl, v, k, h1, _⟩, _⟩ := h
  exact read_out g d.n x m W h1.c0 (by rw [← hd]; exact h1.c4) h1.ok.n hm hout
/-- A vow on a device of two sectors, or none. -/
theorem vopn_two {w W : World} {B g M : Nat} (h : Dlx (fun _ => False) w W B g M (Dv.new 2)) (base : Int) :
    Calls Try.prog 28 #[.pointer (some ⟨g, 0, none⟩), .int .i64 base] W fun e w' => ∃ A E, e = .returned (.tuple #[.pointer A, .int .i64 E]) ∧ ((base = 0 ∧ E = 0 ∧ ∃ V, A = some ⟨V, 0, none⟩) ∨ (base ≠ 0 ∧ E = 30 ∧ A = none)) ∧ Below W.heap.size W w' := by
  by_cases hb : base = 0
  · subst hb
    refine (vopn_any h rfl 0 (by decide) (by decide) _ rfl ⟨0, 0⟩ (good_new 2 (by decide) 0).1.told).mono ?_
    rintro e w' ⟨T, V, rfl, _, hbl⟩
    exact ⟨_, _, rfl, .inl ⟨rfl, rfl, V, rfl⟩, hbl⟩
  · refine (vopn_refused (some ⟨g, 0, none⟩) base 30 (by decide) (dlx_read_out h rfl base 2 (by decide) ?_)).mono ?_
    · show decide (0 ≤ base ∧ 0 ≤ (2 : Int) ∧ base ≤ ((2 : Nat) : Int) - 2) = false
      simp
      omega
    · rintro e w' ⟨rfl, rfl⟩
      exact ⟨_, _, rfl, .inr ⟨hb, rfl, rfl⟩, Below.refl _ _⟩

set_option maxHeartbeats 4000000 in
theorem vowNobody_at (o : Vop) (y : Int) (w : World) :
    Calls Try.prog 8 #[.agg o.cells, .int .i64 y] w fun e w' => e = .returned (.bool true) ∧ Below w.heap.size w w' := by
  obtain ⟨kd, tm, nd, fu, kA, kn, kc, ks⟩ := o
  show Calls Try.prog 8 #[.agg #[.int .i64 kd, .int .u64 tm, .int .i64 nd, .int .i64 fu, .slice kA kn kc], .int .i64 y] w fun e w' => e = .returned (.bool true) ∧ Below w.heap.size w w'
  obtain ⟨W, hW⟩ : ∃ W, W = ((w.alloc (.cells #[.int .i64 kd, .int .u64 tm, .int .i64 nd, .int .i64 fu, .slice kA kn kc] 76)).alloc (.cells #[.int .u64 0, .int .u64 0, .pointer none] 87)).alloc (.cells #[.pointer none, .pointer (some ⟨w.heap.size + 1, 0, none⟩)] 70) := ⟨_, rfl⟩
  have hz : W.heap.size = w.heap.size + 3 := by rw [hW]; simp
  have hb : Below w.heap.size w W := by rw [hW]; exact (((Below.refl _ _).alloc (Nat.le_refl _) _).alloc (by simp) _).alloc (by simp; omega) _
  have hO : W.heap[w.heap.size]? = some (.cells #[.int .i64 kd, .int .u64 tm, .int .i64 nd, .int .i64 fu, .slice kA kn kc] 76 (0, 0)) := by rw [hW]; exact row_old _ (row_old _ (row_here _ _ rfl))
  have hV : Vw W (w.heap.size + 1) none ⟨0, 0⟩ := by rw [hW]; exact row_old _ (row_here _ _ (by simp))
  have hr : W.heap[w.heap.size + 2]? = some (.cells #[.pointer none, .pointer (some ⟨w.heap.size + 1, 0, none⟩)] 70 (0, 0)) := by rw [hW]; exact row_here _ _ (by simp)
  have p0 : W.cell? ⟨w.heap.size + 2, 0, none⟩ = some (.pointer none) := cell_of_row W _ 0 _ _ _ hr
  have p1 : W.cell? ⟨w.heap.size + 2, 1, none⟩ = some (.pointer (some ⟨w.heap.size + 1, 0, none⟩)) := cell_of_row W _ 1 _ _ _ hr
  have o1 : W.cell? ⟨w.heap.size, 1, none⟩ = some (.int .u64 tm) := cell_of_row W _ 1 _ _ _ hO
  have o2 : W.cell? ⟨w.heap.size, 2, none⟩ = some (.int .i64 nd) := cell_of_row W _ 2 _ _ _ hO
  have HV := Lib.hid hV
  have HW := Lib.hid hW
  have HB := Lib.hid hb
  have HZ := Lib.hid hz
  clear hz hb hV hr hW hO
  go_enter Try.func8, Try.ntmps8
  go_wp2
  rw [← HW.out]
  refine wp_loop_rounds 3 ?_
  rw [rounds_succ]
  go_wp2_with (first
    | (go_at_call 30; refine (vraise_nil _ _).mono ?_; rintro e w1 ⟨rfl, rfl⟩)
    | (go_at_call 31; refine (vcast_nil _ _ _).mono ?_; rintro e w1 ⟨rfl, rfl⟩)
    | (go_at_call 32; refine (has_nil _).mono ?_; rintro e w1 ⟨rfl, hb1⟩)
    | fail)
  have h1 := HB.out.trans (hb1.mono HB.out.size)
  have o1 := kept hb1 o1 (by have := HZ.out; omega)
  have o2 := kept hb1 o2 (by have := HZ.out; omega)
  have p1 := kept hb1 p1 (by have := HZ.out; omega)
  have HV1 := Lib.hid (HV.out.below hb1)
  have HB1 := Lib.hid h1
  clear hb1 h1
  rw [rounds_succ]
  go_wp2_with (first
    | (go_at_call 30; refine (vraise_bare HV1.out _).mono ?_; rintro e w2 ⟨rfl, rfl⟩)
    | (go_at_call 31; refine (vcast_bare HV1.out _ _).mono ?_; rintro e w2 ⟨rfl, rfl⟩)
    | (go_at_call 32; refine (has_any HV1.out (by decide)).mono ?_; rintro e w2 ⟨rfl, hb2⟩; rw [show Vv.cells ⟨0, 0⟩ = #[.int .u64 0, .int .i64 (-1)] from rfl])
    | fail)
  have HB2 := Lib.hid (HB1.out.trans (hb2.mono HB1.out.size))
  clear hb2 o1 o2 p1 p0
  rw [rounds_succ]
  go_upto_region 10 with (first
    | (go_at_call 10; refine (dlx_new 2 _ (by decide) (by decide)).mono ?_; rintro e w3 ⟨g, rfl, hD⟩)
    | (go_at_call 28; have hx := hD; clear hx; refine (vopn_two hD _).mono ?_; rintro e w4 ⟨A4, E4, rfl, hAE, hb4⟩)
    | (go_at_call 28; refine (vopn_refused none y 1 (by decide) (read_nil _ _ _)).mono ?_; rintro e w5 ⟨rfl, rfl⟩)
    | fail)
  have HB4 := Lib.hid (HB2.out.trans ((hD.bel.trans (hb4.mono hD.bel.size)).mono HB2.out.size))
  clear hD hb4
  rcases hAE with ⟨rfl, rfl, V, rfl⟩ | ⟨hy, rfl, rfl⟩
  · go_wp2_with (first
      | (go_at_call 27; refine (lives12 _).mono ?_; rintro e w6 ⟨rfl, hb6⟩)
      | fail)
    go_ret
    exact ⟨rfl, HB4.out.trans (hb6.mono HB4.out.size)⟩
  · have q1 : (y == 0) = false := by simpa using hy
    go_wp2_with (first
      | (go_at_call 27; refine (lives12 _).mono ?_; rintro e w6 ⟨rfl, hb6⟩)
      | fail)
    go_ret
    exact ⟨rfl, HB4.out.trans (hb6.mono HB4.out.size)⟩
theorem vowNobody_walk {w : World} {o : Vop} (_ : o.Reads w) (y : Int) (_ : (Lit.int .i64 y).wf = true) :
    Calls Try.prog 8 #[.agg o.cells, .int .i64 y] w fun e w' => e = .returned (.bool true) ∧ Below w.heap.size w w' := vowNobody_at o y w
namespace vowNobody
open Go.ChangeShapes Go.WideShapes Go.ChangeAt
set_option maxRecDepth 100000 in
theorem lifted (os : Os) (started : os.Started) (H : Type) (enc : TypeId × Value → H) :
    ReturnsInHanded {} Try.checked os 8 .any (Rows.vowNobodySpec.pre6 enc Try.prog Try.f8 Rows.vowNobodyRow.domain false) (Rows.vowNobodySpec.post enc Try.prog Try.f8 false true false false) := by
  refine returnsInHanded_of_change (C := Try.checked) own started (by kernel_rfl) Try.func8
    (ChangeSpec.witness6 (enc := enc) (C := Try.checked) false ⟨#[], #[.agg #[.int .i64 0, .int .u64 0, .int .i64 0, .int .i64 0, .slice none 0 0], .int .i64 0], []⟩ 8 (by kernel_rfl) (by kernel_rfl) (by kernel_rfl) (by kernel_rfl)) ?_
  intro W base args ds gs before hval0 hW _ _
  have hval : ∀ (j : Nat) t v, Try.f8.params[j]? = some t → args[j]? = some v → Value.okWide Try.prog W .any base t v := hval0
  have hW' := hW
  obtain ⟨p, q, hA0, hV, rfl, hfz, hnd⟩ := hW
  have hA : DataW.TrodAll enc Try.prog W 0 (fun _ => true) true Try.f8.params.toList args.toList ds p := hA0
  rw [Try.params8] at hA hval
  obtain ⟨v0, vs0, d0, ds0, p0, q0, hargs, rfl, rfl, h0, r0⟩ := trodAll_cons hA
  obtain ⟨v1, vs1, d1, ds1, p1, q1, rfl, rfl, rfl, h1, r1⟩ := trodAll_cons r0
  obtain ⟨rfl, rfl, rfl⟩ := trodAll_nil r1
  obtain rfl : args = #[v0, v1] := by cases args; simp_all
  obtain ⟨rfl, rfl⟩ := trodVars_none hV
  have k0 := h0
  have lt0 : ∀ x ∈ p0, x.block < W.heap.size := by obtain ⟨m, hm⟩ := k0; exact DataW.trod_lt m _ _ _ hm
  obtain ⟨o0, rfl, w0⟩ := Vop.decv (hval 0 76 v0 rfl rfl) h0
  have k1 := h1
  have lt1 : ∀ x ∈ p1, x.block < W.heap.size := by obtain ⟨m, hm⟩ := k1; exact DataW.trod_lt m _ _ _ hm
  obtain ⟨x1, rfl, w1⟩ := dec_int Try.underlying3 (hval 1 3 v1 rfl rfl) h1
  clear hA0 hval0
  refine (vowNobody_walk w0 x1 w1).mono fun e W' ⟨he, bel⟩ => ?_
  subst he
  exact ⟨_, rfl, _, _, _, [], _, [], hW', trodAll_mk1 (shut_bool Try.underlying4 _), (trodAll_cons_mk (Below.trod laidOut (by kernel_rfl) (of_decide_eq_true (by kernel_rfl)) k0 bel lt0) (trodAll_cons_mk (Below.trod laidOut (by kernel_rfl) (of_decide_eq_true (by kernel_rfl)) k1 bel lt1) trodAll_mk0)), rfl, bel.frame _, fun h => by cases h⟩

theorem over : Rows.vowNobodyRow.holds Try.pinned (OpenSpec.ofChange Rows.vowNobodySpec) :=
  OpenClaim.holds_of_wide 8 Try.f8 rfl rfl rfl rfl rfl rfl rfl ⟨rfl, rfl, rfl, rfl, rfl⟩ rfl rfl rfl rfl rfl (by kernel_rfl) Try.func8 (by kernel_rfl)
    (of_decide_eq_true (by kernel_rfl)) (by unfold Func.isWrapper; first | (rw [if_pos (by decide +kernel)]; kernel_rfl) | (rw [if_neg (by decide +kernel)]; exact ⟨rfl, rfl⟩))
    (fun os started H enc _ => lifted os started H enc)
/-- The given statement. -/
theorem proved : Rows.VowNobodySaid := over
end vowNobody

end Go.Proofs.Yteakdmabdfpiiaa

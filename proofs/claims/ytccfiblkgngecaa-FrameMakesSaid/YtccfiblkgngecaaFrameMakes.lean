/- FrameMakes: any text is framed as the document says, or refused, and so many sectors has a text of any length: the law answers true for every number, all bytes and every length. -/
import Derived.Test.YtccfiblkgngecaaFrmakeb
import Derived.Test.YtccfiblkgngecaaRowkit
namespace Go.Proofs.Ytccfiblkgngecaa
open Go.RowKit

theorem frameMakes_early (m x : Int) (A : Option Addr) (n c : Nat) (w : World) (hbig : 70000 < n) :
    Calls Try.prog 3 #[.int .u64 m, .slice A n c, .int .i64 x] w fun e w' => e = .returned (.bool true) ∧ Below w.heap.size w w' := by
  have d1 : decide ((70000 : Int) < (n : Int)) = true := by simp; omega
  clear hbig
  go_enter Try.func3, Try.ntmps3
  go_wp2_with (go_at_call 7; refine (flives _).mono ?_; rintro e w6 ⟨rfl, hb6⟩)
  go_ret
  exact ⟨rfl, hb6⟩

theorem frameMakes_bad (m : Nat) (x : Int) (A : Option Addr) (n c : Nat) (w : World) (hx : (Lit.int .i64 x).wf = true) (hn : n ≤ 70000) (E : Int)
    (h1 : ∀ w, Calls Try.prog 8 #[.int .u64 (m : Int), .slice A n c] w fun e w' => e = .returned (.tuple #[.slice none 0 0, .int .i64 E]) ∧ w = w')
    (h2 : ∀ w, Calls Try.prog 9 #[.int .u64 (m : Int), .slice A n c] w fun e w' => e = .returned (.tuple #[.slice none 0 0, .int .i64 E]) ∧ w = w') :
    Calls Try.prog 3 #[.int .u64 (m : Int), .slice A n c, .int .i64 x] w fun e w' => e = .returned (.bool true) ∧ Below w.heap.size w w' := by
  have d1 : decide ((70000 : Int) < (n : Int)) = false := by simp; omega
  have H1 := Lib.hid h1
  have H2 := Lib.hid h2
  have HS1 := Lib.hid (fun w => sectors_any x w hx)
  have HS2 := Lib.hid (fun w => rsectors_any x w hx)
  have F := fun w => run_str (P := Try.prog) Try.underlying23 Try.underlying5 Try.underlying9 (B := 0) (w := w) (l := []) Rd.nil_
  have q1 : (E == E) = true := beq_self_eq_true _
  have q2 : ((str []).toList == (str []).toList) = true := beq_self_eq_true _
  have q3 : (((sectorsOf x : Nat) : Int) == ((sectorsOf x : Nat) : Int)) = true := beq_self_eq_true _
  have HX := Lib.hid hx
  clear h1 h2 hn hx
  go_enter Try.func3, Try.ntmps3
  go_wp2_with (first
    | (go_at_call 8; refine (H1.out _).mono ?_; rintro e w1 ⟨rfl, rfl⟩)
    | (go_at_call 9; refine (H2.out _).mono ?_; rintro e w1 ⟨rfl, rfl⟩)
    | (go_at_call 10; refine (HS1.out _).mono ?_; rintro e w0 ⟨rfl, rfl⟩)
    | (go_at_call 11; refine (HS2.out _).mono ?_; rintro e w0 ⟨rfl, rfl⟩)
    | (go_at_call 7; refine (flives _).mono ?_; rintro e w6 ⟨rfl, hb6⟩)
    | fail)
  go_ret
  exact ⟨rfl, hb6⟩

set_option maxHeartbeats 2000000 in
theorem frameMakes_good (m : Nat) (x : Int) (A : Option Addr) (n c : Nat) (l : List UInt8) (w : World) (h : Rd w w.heap.size 1 A n c (u8s l)) (hx : (Lit.int .i64 x).wf = true) (hn : n ≤ 65536) (hm0 : 0 < m) (hm : m < 18446744073709551616) :
    Calls Try.prog 3 #[.int .u64 (m : Int), .slice A n c, .int .i64 x] w fun e w' => e = .returned (.bool true) ∧ Below w.heap.size w w' := by
  have d1 : decide ((70000 : Int) < (n : Int)) = false := by simp; omega
  have h1 := make_good m A n c l w h hn hm0 hm
  have h2 := fun (w1 : World) (hb : Below w.heap.size w w1) => rmake_good m A n c l w1 ((h.below hb).more hb.size) hn hm0 hm
  generalize 64 * sectorsOf (l.length : Int) = q at *
  generalize makeOf m l = t at *
  have H1 := Lib.hid h1
  have H2 := Lib.hid h2
  have HS1 := Lib.hid (fun w => sectors_any x w hx)
  have HS2 := Lib.hid (fun w => rsectors_any x w hx)
  have q2 : ((str t).toList == (str t).toList) = true := beq_self_eq_true _
  have q3 : (((sectorsOf x : Nat) : Int) == ((sectorsOf x : Nat) : Int)) = true := beq_self_eq_true _
  clear h1 h2 hn hx hm0 hm
  go_enter Try.func3, Try.ntmps3
  go_wp2_with (first
    | (go_at_call 8; refine (H1.out).mono ?_; rintro e w1 ⟨v1, rfl, hown1, hb1⟩; obtain ⟨A1, c1, rfl⟩ := ownsRow_form hown1; have hr1 := ownsRow_rd hown1)
    | (go_at_call 9; refine (H2.out _ hb1).mono ?_; rintro e w2 ⟨v2, rfl, hown2, hb2⟩; obtain ⟨A2, c2, rfl⟩ := ownsRow_form hown2; have hb02 := hb1.trans (hb2.mono hb1.size)
       have F1 := run_str (P := Try.prog) Try.underlying23 Try.underlying5 Try.underlying9 (hr1.below hb2)
       have F2 := run_str (P := Try.prog) Try.underlying23 Try.underlying5 Try.underlying9 (ownsRow_rd hown2))
    | (go_at_call 10; refine (HS1.out _).mono ?_; rintro e w0 ⟨rfl, rfl⟩)
    | (go_at_call 11; refine (HS2.out _).mono ?_; rintro e w0 ⟨rfl, rfl⟩)
    | (go_at_call 7; refine (flives _).mono ?_; rintro e w6 ⟨rfl, hb6⟩)
    | fail)
  go_ret
  exact ⟨rfl, hb02.trans (hb6.mono hb02.size)⟩

theorem frameMakes_walk {w : World} (x : Int) (hx : (Lit.int .u64 x).wf = true) (A : Option Addr) (n c : Nat) (l : List UInt8) (h : Rd w w.heap.size 1 A n c (u8s l)) (y : Int) (hy : (Lit.int .i64 y).wf = true) :
    Calls Try.prog 3 #[.int .u64 x, .slice A n c, .int .i64 y] w fun e w' => e = .returned (.bool true) ∧ Below w.heap.size w w' := by
  simp [Lit.wf, IntKind.min, IntKind.max, IntKind.signed, IntKind.bits] at hx
  obtain ⟨m, rfl⟩ := Int.eq_ofNat_of_zero_le hx.1
  by_cases h7 : n ≤ 70000
  · by_cases h0 : 0 < m
    · by_cases h6 : n ≤ 65536
      · exact frameMakes_good m y A n c l w h hy h6 h0 (by omega)
      · exact frameMakes_bad m y A n c w hy h7 11 (fun w => make_long m A n c w h0 (by omega)) (fun w => rmake_long m A n c w h0 (by omega))
    · obtain rfl : m = 0 := by omega
      exact frameMakes_bad 0 y A n c w hy h7 2 (fun w => make_zero A n c w) (fun w => rmake_zero A n c w)
  · exact frameMakes_early _ y A n c w (by omega)

namespace frameMakes
open Go.ChangeShapes Go.WideShapes Go.ChangeAt
set_option maxRecDepth 100000 in
theorem lifted (os : Os) (started : os.Started) (H : Type) (enc : TypeId × Value → H) :
    ReturnsInHanded {} Try.checked os 3 .any (Rows.frameMakesSpec.pre6 enc Try.prog Try.f3 Rows.frameMakesRow.domain false) (Rows.frameMakesSpec.post enc Try.prog Try.f3 false true false false) := by
  refine returnsInHanded_of_change (C := Try.checked) own started (by kernel_rfl) Try.func3
    (ChangeSpec.witness6 (enc := enc) (C := Try.checked) false ⟨#[], #[.int .u64 0, .slice none 0 0, .int .i64 0], []⟩ 8 (by kernel_rfl) (by kernel_rfl) (by kernel_rfl) (by kernel_rfl)) ?_
  intro W base args ds gs before hval0 hW _ _
  have hval : ∀ (j : Nat) t v, Try.f3.params[j]? = some t → args[j]? = some v → Value.okWide Try.prog W .any base t v := hval0
  have hW' := hW
  obtain ⟨p, q, hA0, hV, rfl, hfz, hnd⟩ := hW
  have hA : DataW.TrodAll enc Try.prog W 0 (fun _ => true) true Try.f3.params.toList args.toList ds p := hA0
  rw [Try.params3] at hA hval
  obtain ⟨v0, vs0, d0, ds0, p0, q0, hargs, rfl, rfl, h0, r0⟩ := trodAll_cons hA
  obtain ⟨v1, vs1, d1, ds1, p1, q1, rfl, rfl, rfl, h1, r1⟩ := trodAll_cons r0
  obtain ⟨v2, vs2, d2, ds2, p2, q2, rfl, rfl, rfl, h2, r2⟩ := trodAll_cons r1
  obtain ⟨rfl, rfl, rfl⟩ := trodAll_nil r2
  obtain rfl : args = #[v0, v1, v2] := by cases args; simp_all
  obtain ⟨rfl, rfl⟩ := trodVars_none hV
  have k0 := h0
  have lt0 : ∀ x ∈ p0, x.block < W.heap.size := by obtain ⟨m, hm⟩ := k0; exact DataW.trod_lt m _ _ _ hm
  obtain ⟨x0, rfl, w0⟩ := dec_int Try.underlying22 (hval 0 22 v0 rfl rfl) h0
  have k1 := h1
  have lt1 : ∀ x ∈ p1, x.block < W.heap.size := by obtain ⟨m, hm⟩ := k1; exact DataW.trod_lt m _ _ _ hm
  obtain ⟨a1, n1, c1, l1, rfl, w1⟩ := dec_bytes Try.underlying23 Try.underlying5 (by kernel_rfl) (hval 1 23 v1 rfl rfl) h1
  have k2 := h2
  have lt2 : ∀ x ∈ p2, x.block < W.heap.size := by obtain ⟨m, hm⟩ := k2; exact DataW.trod_lt m _ _ _ hm
  obtain ⟨x2, rfl, w2⟩ := dec_int Try.underlying3 (hval 2 3 v2 rfl rfl) h2
  clear hA0 hval0
  refine (frameMakes_walk x0 w0 a1 n1 c1 l1 w1 x2 w2).mono fun e W' ⟨he, bel⟩ => ?_
  subst he
  exact ⟨_, rfl, _, _, _, [], _, [], hW', trodAll_mk1 (shut_bool Try.underlying4 _), (trodAll_cons_mk (Below.trod laidOut (by kernel_rfl) (of_decide_eq_true (by kernel_rfl)) k0 bel lt0) (trodAll_cons_mk (Below.trod laidOut (by kernel_rfl) (of_decide_eq_true (by kernel_rfl)) k1 bel lt1) (trodAll_cons_mk (Below.trod laidOut (by kernel_rfl) (of_decide_eq_true (by kernel_rfl)) k2 bel lt2) trodAll_mk0))), rfl, bel.frame _, fun h => by cases h⟩

theorem over : Rows.frameMakesRow.holds Try.pinned (OpenSpec.ofChange Rows.frameMakesSpec) :=
  OpenClaim.holds_of_wide 3 Try.f3 rfl rfl rfl rfl rfl rfl rfl ⟨rfl, rfl, rfl, rfl, rfl⟩ rfl rfl rfl rfl rfl (by kernel_rfl) Try.func3 (by kernel_rfl)
    (of_decide_eq_true (by kernel_rfl)) (by unfold Func.isWrapper; first | (rw [if_pos (by decide +kernel)]; kernel_rfl) | (rw [if_neg (by decide +kernel)]; exact ⟨rfl, rfl⟩))
    (fun os started H enc _ => lifted os started H enc)
/-- The given statement. -/
theorem proved : Rows.FrameMakesSaid := over
end frameMakes

end Go.Proofs.Ytccfiblkgngecaa

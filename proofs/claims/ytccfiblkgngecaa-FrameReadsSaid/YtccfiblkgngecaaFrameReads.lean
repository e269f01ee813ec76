/- FrameReads: any bytes are read as the document says, or refused, and the numbers at their ends are the document's: the law answers true for all bytes. -/
import Derived.Test.YtccfiblkgngecaaFmost
namespace Go.Proofs.Ytccfiblkgngecaa
open Go.RowKit

theorem rread_any (A : Option Addr) (n c : Nat) (l : List UInt8) (w : World) (h : Rd w w.heap.size 1 A n c (u8s l)) (hn : n ≤ 1000000) : Calls Try.prog 13 #[.slice A n c] w (Tells3 w (readOf l)) := by
  have hln : l.length = n := by have := h.len; rwa [u8s_len] at this
  by_cases hs : n < 64
  · exact rread_short A n c l w hln hs
  · by_cases hw : headsOf l ≠ tailsOf l ∨ headsOf l = 0
    · exact rread_ends A n c l w h hn (by omega) hw
    · refine rread_late A n c l w h hn (by omega) ?_ ?_ <;> omega

theorem frameReads_early (A : Option Addr) (n c : Nat) (w : World) (hbig : 3000 < n) :
    Calls Try.prog 4 #[.slice A n c] w fun e w' => e = .returned (.bool true) ∧ Below w.heap.size w w' := by
  have d1 : decide ((3000 : Int) < (n : Int)) = true := by simp; omega
  clear hbig
  go_enter Try.func4, Try.ntmps4
  go_wp2_with (go_at_call 7; refine (flives _).mono ?_; rintro e w6 ⟨rfl, hb6⟩)
  go_ret
  exact ⟨rfl, hb6⟩

set_option maxHeartbeats 4000000 in
set_option maxRecDepth 8000 in
theorem frameReads_good (A : Option Addr) (n c : Nat) (l : List UInt8) (w : World) (h : Rd w w.heap.size 1 A n c (u8s l)) (hn : n ≤ 3000) :
    Calls Try.prog 4 #[.slice A n c] w fun e w' => e = .returned (.bool true) ∧ Below w.heap.size w w' := by
  have d1 : decide ((3000 : Int) < (n : Int)) = false := by simp; omega
  have at_ := fun (w1 : World) (hb : Below w.heap.size w w1) => (h.below hb).more hb.size
  have H1 := Lib.hid (read_frame A n c l w h (by omega))
  have h2 := fun (w1 : World) (hb : Below w.heap.size w w1) => rread_any A n c l w1 (at_ w1 hb) (by omega)
  have h3 := fun (w1 : World) (hb : Below w.heap.size w w1) => ends_any A n c l w1 (at_ w1 hb) (by omega)
  have h4 := fun (w1 : World) (hb : Below w.heap.size w w1) => rends_any A n c l w1 (at_ w1 hb) (by omega)
  have h5 := fun (w1 : World) (hb : Below w.heap.size w w1) => most_any A n c l w1 (at_ w1 hb) (by omega)
  have h6 := fun (w1 : World) (hb : Below w.heap.size w w1) => rmost_any A n c l w1 (at_ w1 hb) (by omega)
  generalize readOf l = r at *
  obtain ⟨m, t, E⟩ := r
  generalize headsOf l = hd at *
  generalize tailsOf l = tl at *
  generalize mostOf l (n / 64) = mo at *
  have H2 := Lib.hid h2
  have H3 := Lib.hid h3
  have H4 := Lib.hid h4
  have H5 := Lib.hid h5
  have H6 := Lib.hid h6
  have qm : ((m : Int) == (m : Int)) = true := beq_self_eq_true _
  have qE : (E == E) = true := beq_self_eq_true _
  have qh : ((hd : Int) == (hd : Int)) = true := beq_self_eq_true _
  have qt : ((tl : Int) == (tl : Int)) = true := beq_self_eq_true _
  have qo : ((mo : Int) == (mo : Int)) = true := beq_self_eq_true _
  have q2 : ((str t).toList == (str t).toList) = true := beq_self_eq_true _
  clear h2 h3 h4 h5 h6 hn at_ h
  go_enter Try.func4, Try.ntmps4
  go_wp2_with (first
    | (go_at_call 12; refine (H1.out).mono ?_; rintro e w1 ⟨A1, n1, c1, rfl, hn1, hr1, hb1⟩; subst hn1)
    | (go_at_call 13; refine (H2.out _ hb1).mono ?_; rintro e w2 ⟨A2, n2, c2, rfl, hn2, hr2, hb2⟩; subst hn2
       have hb02 := hb1.trans (hb2.mono hb1.size))
    | (go_at_call 14; refine (H3.out _ hb02).mono ?_; rintro e w3 ⟨rfl, hb3⟩; have hb03 := hb02.trans (hb3.mono hb02.size); have hb13 := hb2.trans (hb3.mono hb2.size))
    | (go_at_call 15; refine (H4.out _ hb03).mono ?_; rintro e w4 ⟨rfl, hb4⟩; have hb04 := hb03.trans (hb4.mono hb03.size)
       have F1 := run_str (P := Try.prog) Try.underlying23 Try.underlying5 Try.underlying9 (hr1.below (hb13.trans (hb4.mono hb13.size)))
       have F2 := run_str (P := Try.prog) Try.underlying23 Try.underlying5 Try.underlying9 (hr2.below (hb3.trans (hb4.mono hb3.size))))
    | (go_at_call 16; refine (H5.out _ hb04).mono ?_; rintro e w5 ⟨rfl, hb5⟩; have hb05 := hb04.trans (hb5.mono hb04.size))
    | (go_at_call 17; refine (H6.out _ hb05).mono ?_; rintro e w6 ⟨rfl, hb6⟩; have hb06 := hb05.trans (hb6.mono hb05.size))
    | (go_at_call 7; refine (flives _).mono ?_; rintro e w7 ⟨rfl, hb7⟩)
    | fail)
  go_ret
  exact ⟨rfl, hb06.trans (hb7.mono hb06.size)⟩

theorem frameReads_walk {w : World} (A : Option Addr) (n c : Nat) (l : List UInt8) (h : Rd w w.heap.size 1 A n c (u8s l)) :
    Calls Try.prog 4 #[.slice A n c] w fun e w' => e = .returned (.bool true) ∧ Below w.heap.size w w' := by
  by_cases hn : n ≤ 3000
  · exact frameReads_good A n c l w h hn
  · exact frameReads_early A n c w (by omega)

namespace frameReads
open Go.ChangeShapes Go.WideShapes Go.ChangeAt
set_option maxRecDepth 100000 in
theorem lifted (os : Os) (started : os.Started) (H : Type) (enc : TypeId × Value → H) :
    ReturnsInHanded {} Try.checked os 4 .any (Rows.frameReadsSpec.pre6 enc Try.prog Try.f4 Rows.frameReadsRow.domain false) (Rows.frameReadsSpec.post enc Try.prog Try.f4 false true false false) := by
  refine returnsInHanded_of_change (C := Try.checked) own started (by kernel_rfl) Try.func4
    (ChangeSpec.witness6 (enc := enc) (C := Try.checked) false ⟨#[], #[.slice none 0 0], []⟩ 8 (by kernel_rfl) (by kernel_rfl) (by kernel_rfl) (by kernel_rfl)) ?_
  intro W base args ds gs before hval0 hW _ _
  have hval : ∀ (j : Nat) t v, Try.f4.params[j]? = some t → args[j]? = some v → Value.okWide Try.prog W .any base t v := hval0
  have hW' := hW
  obtain ⟨p, q, hA0, hV, rfl, hfz, hnd⟩ := hW
  have hA : DataW.TrodAll enc Try.prog W 0 (fun _ => true) true Try.f4.params.toList args.toList ds p := hA0
  rw [Try.params4] at hA hval
  obtain ⟨v0, vs0, d0, ds0, p0, q0, hargs, rfl, rfl, h0, r0⟩ := trodAll_cons hA
  obtain ⟨rfl, rfl, rfl⟩ := trodAll_nil r0
  obtain rfl : args = #[v0] := by cases args; simp_all
  obtain ⟨rfl, rfl⟩ := trodVars_none hV
  have k0 := h0
  have lt0 : ∀ x ∈ p0, x.block < W.heap.size := by obtain ⟨m, hm⟩ := k0; exact DataW.trod_lt m _ _ _ hm
  obtain ⟨a0, n0, c0, l0, rfl, w0⟩ := dec_bytes Try.underlying23 Try.underlying5 (by kernel_rfl) (hval 0 23 v0 rfl rfl) h0
  clear hA0 hval0
  refine (frameReads_walk a0 n0 c0 l0 w0).mono fun e W' ⟨he, bel⟩ => ?_
  subst he
  exact ⟨_, rfl, _, _, _, [], _, [], hW', trodAll_mk1 (shut_bool Try.underlying4 _), (trodAll_cons_mk (Below.trod laidOut (by kernel_rfl) (of_decide_eq_true (by kernel_rfl)) k0 bel lt0) trodAll_mk0), rfl, bel.frame _, fun h => by cases h⟩

theorem over : Rows.frameReadsRow.holds Try.pinned (OpenSpec.ofChange Rows.frameReadsSpec) :=
  OpenClaim.holds_of_wide 4 Try.f4 rfl rfl rfl rfl rfl rfl rfl ⟨rfl, rfl, rfl, rfl, rfl⟩ rfl rfl rfl rfl rfl (by kernel_rfl) Try.func4 (by kernel_rfl)
    (of_decide_eq_true (by kernel_rfl)) (by unfold Func.isWrapper; first | (rw [if_pos (by decide +kernel)]; kernel_rfl) | (rw [if_neg (by decide +kernel)]; exact ⟨rfl, rfl⟩))
    (fun os started H enc _ => lifted os started H enc)
/-- The given statement. -/
theorem proved : Rows.FrameReadsSaid := over
end frameReads

end Go.Proofs.Ytccfiblkgngecaa

/- CrcSeals: any bytes, sealed, are the document's, and open as they were; any bytes open as it says, or are refused: the law answers true for all bytes. -/
import Derived.Test.YthaijdgaleifaaaLivesb
import Derived.Test.YthaijdgaleifaaaRowkit
namespace Go.Proofs.Ythaijdgaleifaaa
open Go.RowKit

set_option maxHeartbeats 1000000 in
theorem crcSeals_walk {w : World} (A : Option Addr) (n c : Nat) (l : List UInt8) (h : Rd w w.heap.size 1 A n c (u8s l)) (A2 : Option Addr) (n2 c2 : Nat) (l2 : List UInt8) (h2 : Rd w w.heap.size 1 A2 n2 c2 (u8s l2)) :
    Calls Try.prog 9 #[.slice A n c, .slice A2 n2 c2] w fun e w' => e = .returned (.bool true) ∧ Below w.heap.size w w' := by
  by_cases hn : n ≤ 1000 ∧ n2 ≤ 1000
  · obtain ⟨hn, hn2⟩ := hn
    obtain rfl : l.length = n := by have := h.len; rwa [u8s_len] at this
    have d1 : decide (1000 < l.length) = false := by simp; omega
    have d2 : decide (1000 < n2) = false := by simp; omega
    have hO := fun (A : Option Addr) (c : Nat) (w : World) (h : Rd w w.heap.size 1 A (l.length + 4) c (u8s (sealOf l))) => open_any A (l.length + 4) c _ w h (by omega)
    rw [open_seal] at hO
    have hP := fun (w : World) (h : Rd w w.heap.size 1 A2 n2 c2 (u8s l2)) => open_any A2 n2 c2 l2 w h (by omega)
    have hQ := fun (w : World) (h : Rd w w.heap.size 1 A2 n2 c2 (u8s l2)) => ropen_any A2 n2 c2 l2 w h (by omega)
    generalize (openOf l2).1 = T at hP hQ
    generalize (openOf l2).2 = E at hP hQ
    have HO := Lib.hid hO
    have HP := Lib.hid hP
    have HQ := Lib.hid hQ
    clear hO hP hQ
    have qs : ((str (sealOf l)).toList == (str (sealOf l)).toList) = true := beq_self_eq_true _
    have ql : ((str l).toList == (str l).toList) = true := beq_self_eq_true _
    have qT : ((str T).toList == (str T).toList) = true := beq_self_eq_true _
    have qE : (E == E) = true := beq_self_eq_true _
    go_enter Try.func9, Try.ntmps9
    go_wp2_with (first
      | (go_at_call 33; (with_reducible refine (seal_any _ _ _ l _ h (by omega)).mono ?_); rintro e w1 ⟨v1, rfl, hown1, hb1⟩
         obtain ⟨A3, c3, rfl⟩ := ownsRow_form hown1
         have hr1 := ownsRow_rd hown1)
      | (go_at_call 34; (with_reducible refine (HO.out _ _ _ hr1).mono ?_); rintro e w2 ⟨A4, n4, c4, rfl, rfl, hr2, hb2⟩
         have hb02 := hb1.trans (hb2.mono hb1.size)
         have hc2 := (h2.below hb02).more hb02.size)
      | (go_at_call 34; (with_reducible refine (HP.out _ hc2).mono ?_); rintro e w3 ⟨A5, n5, c5, rfl, hn5, hr3, hb3⟩
         have hb03 := hb02.trans (hb3.mono hb02.size)
         have hc3 := (h2.below hb03).more hb03.size)
      | (go_at_call 35; (with_reducible refine (HQ.out _ hc3).mono ?_); rintro e w4 ⟨A6, n6, c6, rfl, hn6, hr4, hb4⟩
         have hb04 := hb03.trans (hb4.mono hb03.size)
         have hb34 := hb3.trans (hb4.mono hb3.size)
         have hb24 := hb2.trans (hb34.mono hb2.size))
      | fail)
    subst hn5
    subst hn6
    have g1 := (hr1.below hb24).more hb24.size
    have g2 := (hr2.below hb34).more hb34.size
    have g3 := (hr3.below hb4).more hb4.size
    have ga := (h.below hb04).more hb04.size
    clear HO HP HQ
    refine wp_grow [([0, 1, 2], 3), ([4, 5, 6, 7, 8, 9, 10, 11, 12, 13, 14, 15, 16, 17, 18, 19, 20, 21, 22, 23, 24, 25, 26, 27, 28, 29], 30)] [31, 32] (by kernel_rfl) (by kernel_rfl) (fun d _ _ _ _ h => by cases d <;> exact h) fun wd hbd => ?_
    have hzd := hbd.size
    have hb0d := hb04.trans (hbd.mono hb04.size)
    intro f hf
    have F1 := fun z => run_str (P := Try.prog) Try.underlying22 Try.underlying5 Try.underlying9 (g1.below (hf z))
    simp only [pickI, Option.toList_some, List.cons_append, List.nil_append, List.getElem?_toArray, List.getElem?_cons_succ, List.getElem?_cons_zero]
    repeat (go_big_quiet_step (fail))
    refine wpQuiet_nil ?_
    clear F1 hf f
    refine seg_op (by simp only [List.getElem?_toArray, List.getElem?_cons_succ, List.getElem?_cons_zero]; rfl) fun K hK => ?_
    go_simp
    refine (rseal_any _ _ _ l _ ((h.below hb0d).more hb0d.size) (by omega)).mono ?_
    rintro e w5 ⟨v5, rfl, hown5, hb5⟩
    obtain ⟨A7, c7, rfl⟩ := ownsRow_form hown5
    have g5 := ownsRow_rd hown5
    have hb45 : Below w4.heap.size w4 w5 := hbd.trans (hb5.mono hzd)
    refine hK.out _ _ ⟨fun x => Below w5.heap.size w5 x, Below.refl _ _, fun x hx => hb45.trans (hx.mono hb45.size), ?_⟩
    clear hK K
    intro f hf
    have F1 := fun z => run_str (P := Try.prog) Try.underlying22 Try.underlying5 Try.underlying9 (g5.below (hf z))
    have F2 := fun z => run_str (P := Try.prog) Try.underlying22 Try.underlying5 Try.underlying9 (((g2.below hb45).more hb45.size).below (hf z))
    have F3 := fun z => run_str (P := Try.prog) Try.underlying22 Try.underlying5 Try.underlying9 (((g3.below hb45).more hb45.size).below (hf z))
    have F4 := fun z => run_str (P := Try.prog) Try.underlying22 Try.underlying5 Try.underlying9 (((hr4.below hb45).more hb45.size).below (hf z))
    have F5 := fun z => run_str (P := Try.prog) Try.underlying22 Try.underlying5 Try.underlying9 (((ga.below hb45).more hb45.size).below (hf z))
    simp only [pickI, Option.toList_some, List.cons_append, List.nil_append, List.getElem?_toArray, List.getElem?_cons_succ, List.getElem?_cons_zero]
    repeat (go_big_quiet_step (fail))
    refine wpQuiet_nil ?_
    clear F1 F2 F3 F4 F5 hf f
    refine seg_op (by simp only [List.getElem?_toArray, List.getElem?_cons_succ, List.getElem?_cons_zero]; rfl) fun K hK => ?_
    go_simp
    refine (lives2 _).mono ?_
    rintro e wl ⟨rfl, hbl⟩
    refine hK.out _ _ ⟨fun x => Below wl.heap.size wl x, Below.refl _ _, fun x hx => hbl.trans (hx.mono hbl.size), ?_⟩
    clear hK K
    intro f hf
    simp only [pickI, Option.toList_some, List.cons_append, List.nil_append, List.getElem?_toArray, List.getElem?_cons_succ, List.getElem?_cons_zero]
    repeat (go_big_quiet_step (fail))
    refine wpQuiet_nil ?_
    clear hf f
    go_wp2
    go_ret
    have hb05 := hb04.trans (hb45.mono hb04.size)
    exact ⟨rfl, hb05.trans (hbl.mono hb05.size)⟩
  · by_cases hn1 : 1000 < n
    · have d1 : decide (1000 < n) = true := by simp; omega
      go_enter Try.func9, Try.ntmps9
      go_wp2_with (go_at_call 28; refine (lives2 _).mono ?_; rintro e wl ⟨rfl, hbl⟩)
      go_ret
      exact ⟨rfl, hbl⟩
    · have d1 : decide (1000 < n) = false := by simp; omega
      have d2 : decide (1000 < n2) = true := by simp; omega
      go_enter Try.func9, Try.ntmps9
      go_wp2_with (go_at_call 28; refine (lives2 _).mono ?_; rintro e wl ⟨rfl, hbl⟩)
      go_ret
      exact ⟨rfl, hbl⟩

namespace crcSeals
open Go.ChangeShapes Go.WideShapes Go.ChangeAt
set_option maxRecDepth 100000 in
theorem lifted (os : Os) (started : os.Started) (H : Type) (enc : TypeId × Value → H) :
    ReturnsInHanded {} Try.checked os 9 .any (Rows.crcSealsSpec.pre6 enc Try.prog Try.f9 Rows.crcSealsRow.domain false) (Rows.crcSealsSpec.post enc Try.prog Try.f9 false true false false) := by
  refine returnsInHanded_of_change (C := Try.checked) own started (by kernel_rfl) Try.func9
    (ChangeSpec.witness6 (enc := enc) (C := Try.checked) false ⟨#[], #[.slice none 0 0, .slice none 0 0], []⟩ 8 (by kernel_rfl) (by kernel_rfl) (by kernel_rfl) (by kernel_rfl)) ?_
  intro W base args ds gs before hval0 hW _ _
  have hval : ∀ (j : Nat) t v, Try.f9.params[j]? = some t → args[j]? = some v → Value.okWide Try.prog W .any base t v := hval0
  have hW' := hW
  obtain ⟨p, q, hA0, hV, rfl, hfz, hnd⟩ := hW
  have hA : DataW.TrodAll enc Try.prog W 0 (fun _ => true) true Try.f9.params.toList args.toList ds p := hA0
  rw [Try.params9] at hA hval
  obtain ⟨v0, vs0, d0, ds0, p0, q0, hargs, rfl, rfl, h0, r0⟩ := trodAll_cons hA
  obtain ⟨v1, vs1, d1, ds1, p1, q1, rfl, rfl, rfl, h1, r1⟩ := trodAll_cons r0
  obtain ⟨rfl, rfl, rfl⟩ := trodAll_nil r1
  obtain rfl : args = #[v0, v1] := by cases args; simp_all
  obtain ⟨rfl, rfl⟩ := trodVars_none hV
  have k0 := h0
  have lt0 : ∀ x ∈ p0, x.block < W.heap.size := by obtain ⟨m, hm⟩ := k0; exact DataW.trod_lt m _ _ _ hm
  obtain ⟨a0, n0, c0, l0, rfl, w0⟩ := dec_bytes Try.underlying22 Try.underlying5 (by kernel_rfl) (hval 0 22 v0 rfl rfl) h0
  have k1 := h1
  have lt1 : ∀ x ∈ p1, x.block < W.heap.size := by obtain ⟨m, hm⟩ := k1; exact DataW.trod_lt m _ _ _ hm
  obtain ⟨a1, n1, c1, l1, rfl, w1⟩ := dec_bytes Try.underlying22 Try.underlying5 (by kernel_rfl) (hval 1 22 v1 rfl rfl) h1
  clear hA0 hval0
  refine (crcSeals_walk a0 n0 c0 l0 w0 a1 n1 c1 l1 w1).mono fun e W' ⟨he, bel⟩ => ?_
  subst he
  exact ⟨_, rfl, _, _, _, [], _, [], hW', trodAll_mk1 (shut_bool Try.underlying4 _), (trodAll_cons_mk (Below.trod laidOut (by kernel_rfl) (of_decide_eq_true (by kernel_rfl)) k0 bel lt0) (trodAll_cons_mk (Below.trod laidOut (by kernel_rfl) (of_decide_eq_true (by kernel_rfl)) k1 bel lt1) trodAll_mk0)), rfl, bel.frame _, fun h => by cases h⟩

theorem over : Rows.crcSealsRow.holds Try.pinned (OpenSpec.ofChange Rows.crcSealsSpec) :=
  OpenClaim.holds_of_wide 9 Try.f9 rfl rfl rfl rfl rfl rfl rfl ⟨rfl, rfl, rfl, rfl, rfl⟩ rfl rfl rfl rfl rfl (by kernel_rfl) Try.func9 (by kernel_rfl)
    (of_decide_eq_true (by kernel_rfl)) (by unfold Func.isWrapper; first | (rw [if_pos (by decide +kernel)]; kernel_rfl) | (rw [if_neg (by decide +kernel)]; exact ⟨rfl, rfl⟩))
    (fun os started H enc _ => lifted os started H enc)
/-- The given statement. -/
theorem proved : Rows.CrcSealsSaid := over
end crcSeals

end Go.Proofs.Ythaijdgaleifaaa

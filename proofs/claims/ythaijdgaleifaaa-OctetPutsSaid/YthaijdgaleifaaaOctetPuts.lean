/- OctetPuts: any numbers of any width, and any text, are put behind any bytes as the document says, and what was handed in stays: the law answers true for all bytes, numbers, widths and texts. -/
import Derived.Test.YthaijdgaleifaaaLivesa
import Derived.Test.YthaijdgaleifaaaRowkit
import Derived.Test.YthaijdgaleifaaaSegs
namespace Go.Proofs.Ythaijdgaleifaaa
open Go.RowKit

/-- Put, and the document's, come to one list. -/
theorem puts_same (A A2 : Option Addr) (n c n2 c2 : Nat) (l : List UInt8) (ns : List Nat) (W : Int) (hn : n + n2 * 8 ≤ 1000000) (hns : Hid (∀ x ∈ ns, x < 18446744073709551616)) :
    ∃ L, (∀ w, Rd w w.heap.size 1 A n c (u8s l) → Rd w w.heap.size 1 A2 n2 c2 (u64s ns) → Calls Try.prog 13 #[.slice A n c, .int .i64 W, .slice A2 n2 c2] w (OwnsSome w L)) ∧
      (∀ w, Rd w w.heap.size 1 A n c (u8s l) → Rd w w.heap.size 1 A2 n2 c2 (u64s ns) → Calls Try.prog 14 #[.slice A n c, .int .i64 W, .slice A2 n2 c2] w (OwnsSome w L)) := by
  refine ⟨allOf l W ns, fun w h h2 => ?_, fun w h h2 => rall_any A A2 n c n2 c2 l ns W w h h2 hn hns⟩
  by_cases hW : 1 ≤ W ∧ W ≤ 8
  · obtain ⟨k, rfl⟩ := Int.eq_ofNat_of_zero_le (show 0 ≤ W by omega)
    refine (put_good A A2 n c n2 c2 l ns k w h h2 hn (by omega) (by omega)).mono ?_
    rintro e w' ⟨v, rfl, hown, hb⟩
    refine ⟨v, n + n2 * k, rfl, ?_, hb⟩
    unfold allOf
    rw [if_pos hW, Int.toNat_natCast]
    exact hown
  · refine (put_bad A A2 n c n2 c2 l W w h (by omega) (by omega)).mono ?_
    rintro e w' ⟨v, rfl, hown, hb⟩
    refine ⟨v, n, rfl, ?_, hb⟩
    unfold allOf
    rw [if_neg hW, List.append_nil]
    exact hown

def Owns2 (w : World) (L : List UInt8) (x : Value) (e : Ending) (w' : World) : Prop := ∃ v m, e = .returned (.tuple #[v, x]) ∧ w'.ownsRow w.heap.size 5 1 v m (u8s L) ∧ Below w.heap.size w w'
theorem texts_same (A : Option Addr) (n c : Nat) (l s : List UInt8) (hn : n ≤ 500000) :
    ∃ L E ok, ((E = 0 ∧ ok = true) ∨ (E = 11 ∧ ok = false)) ∧ (∀ w, Rd w w.heap.size 1 A n c (u8s l) → Calls Try.prog 11 #[.slice A n c, .string (str s)] w (Owns2 w L (.int .i64 E))) ∧
      (∀ w, Rd w w.heap.size 1 A n c (u8s l) → Calls Try.prog 12 #[.slice A n c, .string (str s)] w (Owns2 w L (.bool ok))) := by
  by_cases hs : s.length ≤ 16384
  · refine ⟨l ++ le 2 s.length ++ s, 0, true, .inl ⟨rfl, rfl⟩, fun w h => ?_, fun w h => ?_⟩
    · refine (texts_any A n c l s w h hn hs).mono ?_
      rintro e w' ⟨v, rfl, hown, hb⟩
      exact ⟨v, _, rfl, hown, hb⟩
    · refine (rtext_any A n c l s w h hn hs).mono ?_
      rintro e w' ⟨v, rfl, hown, hb⟩
      exact ⟨v, _, rfl, hown, hb⟩
  · refine ⟨[], 11, false, .inr ⟨rfl, rfl⟩, fun w h => ?_, fun w h => ?_⟩
    · refine (texts_long A n c s w (by omega)).mono ?_
      rintro e w' ⟨rfl, rfl⟩
      exact ⟨_, 0, rfl, World.ownsRow_nil _ _ _ _, Below.refl _ _⟩
    · refine (rtext_long A n c s w (by omega)).mono ?_
      rintro e w' ⟨rfl, rfl⟩
      exact ⟨_, 0, rfl, World.ownsRow_nil _ _ _ _, Below.refl _ _⟩

theorem octetPuts_early (A A2 : Option Addr) (n c n2 c2 : Nat) (s : List UInt8) (W : Int) (w : World) (hbig : 1000 < n ∨ 100 < n2 ∨ 20000 < s.length) :
    Calls Try.prog 3 #[.slice A n c, .int .i64 W, .slice A2 n2 c2, .string (str s)] w fun e w' => e = .returned (.bool true) ∧ Below w.heap.size w w' := by
  have hz : (str s).size = s.length := rfl
  by_cases h1 : 1000 < n
  · have d1 : decide (1000 < n) = true := by simpa using h1
    go_enter Try.func3, Try.ntmps3
    go_wp2_with (go_at_call 10; refine (lives1 _).mono ?_; rintro e w6 ⟨rfl, hb6⟩)
    go_ret
    exact ⟨rfl, hb6⟩
  · have d1 : decide (1000 < n) = false := by simpa using h1
    by_cases h2 : 100 < n2
    · have d2 : decide (100 < n2) = true := by simpa using h2
      go_enter Try.func3, Try.ntmps3
      go_wp2_with (go_at_call 10; refine (lives1 _).mono ?_; rintro e w6 ⟨rfl, hb6⟩)
      go_ret
      exact ⟨rfl, hb6⟩
    · have d2 : decide (100 < n2) = false := by simpa using h2
      have d3 : decide (20000 < s.length) = true := by simp; omega
      go_enter Try.func3, Try.ntmps3
      go_wp2_with (go_at_call 10; refine (lives1 _).mono ?_; rintro e w6 ⟨rfl, hb6⟩)
      go_ret
      exact ⟨rfl, hb6⟩

set_option maxHeartbeats 4000000 in
theorem octetPuts_late (A A2 : Option Addr) (n c n2 c2 : Nat) (l s : List UInt8) (ns : List Nat) (W : Int) (w : World) (h : Rd w w.heap.size 1 A n c (u8s l)) (h2 : Rd w w.heap.size 1 A2 n2 c2 (u64s ns)) (hns : Hid (∀ x ∈ ns, x < 18446744073709551616))
    (h1 : n ≤ 1000) (h3 : n2 ≤ 100) (h4 : s.length ≤ 20000) :
    Calls Try.prog 3 #[.slice A n c, .int .i64 W, .slice A2 n2 c2, .string (str s)] w fun e w' => e = .returned (.bool true) ∧ Below w.heap.size w w' := by
  have hz : (str s).size = s.length := rfl
  have d1 : decide (1000 < n) = false := by simp; omega
  have d2 : decide (100 < n2) = false := by simp; omega
  have d3 : decide (20000 < s.length) = false := by simp; omega
  obtain ⟨L, HP, HA⟩ := puts_same A A2 n c n2 c2 l ns W (by omega) hns
  obtain ⟨T, E, ok, hE, HT, HR⟩ := texts_same A n c l s (by omega)
  have HP := Lib.hid HP
  have HA := Lib.hid HA
  have HT := Lib.hid HT
  have HR := Lib.hid HR
  rcases hE with ⟨rfl, rfl⟩ | ⟨rfl, rfl⟩
  all_goals
    go_enter Try.func3, Try.ntmps3
    go_wp2_with (first
      | (go_at_call 11; refine (HT.out _ h).mono ?_; rintro e w1 ⟨v1, m1, rfl, hown1, hb1⟩; have hz1 := hb1.size
         obtain ⟨A3, c3, rfl⟩ := ownsRow_form hown1)
      | (go_at_call 12; refine (HR.out _ ((h.below hb1).more hz1)).mono ?_; rintro e w2 ⟨v2, m2, rfl, hown2, hb2⟩; have hz2 := hb2.size
         obtain ⟨A4, c4, rfl⟩ := ownsRow_form hown2)
      | (refine wpL_str (o := ⟨some 29, _, _, _, _, _⟩) (A := A) (n := n) (c := c) rfl (.tmp 28) 22 9 rfl Try.underlying22 Try.underlying5 Try.underlying9 rfl h ?_))
    have hb12 := hb1.trans (hb2.mono hz1)
    have hr1 := ((ownsRow_rd hown1).below hb2).more hz2
    have hr2 := ownsRow_rd hown2
    have qL : ((str L).toList == (str L).toList) = true := beq_self_eq_true _
    have qT : ((str T).toList == (str T).toList) = true := beq_self_eq_true _
    have ql : ((str l).toList == (str l).toList) = true := beq_self_eq_true _
    clear HT HR
    refine wp_grow [([0, 1, 2, 5, 6, 7], 3), ([4], 8), ([9, 10, 11, 12, 13, 14, 15, 16, 17, 18, 19, 20, 21, 22, 23, 24, 25, 26, 27, 28, 29, 30, 31, 32, 33, 34, 35, 36, 37], 38)] [39, 40] (by kernel_rfl) (by kernel_rfl) (fun d _ _ _ _ h => by cases d <;> exact h) fun wd hbd => ?_
    have hzd := hbd.size
    have hbd' := hb12.trans (hbd.mono hb12.size)
    have hrA := (h.below hbd').more hbd'.size
    have hrB := (h2.below hbd').more hbd'.size
    intro f hf
    simp only [pickI, Option.toList_some, List.cons_append, List.nil_append, List.getElem?_toArray, List.getElem?_cons_succ, List.getElem?_cons_zero]
    repeat (go_big_quiet_step (fail))
    refine wpQuiet_nil ?_
    clear hf f
    refine seg_op (by simp only [List.getElem?_toArray, List.getElem?_cons_succ, List.getElem?_cons_zero]; rfl) fun K hK => ?_
    go_simp
    refine (HP.out _ hrA hrB).mono ?_
    rintro e w3 ⟨v3, m3, rfl, hown3, hb3⟩
    have hz3 := hb3.size
    obtain ⟨A5, c5, rfl⟩ := ownsRow_form hown3
    have hr3 := ownsRow_rd hown3
    refine hK.out _ _ ⟨fun w' => Below w3.heap.size w3 w', Below.refl _ _, fun x hx => hbd.trans ((hb3.trans (hx.mono hz3)).mono hzd), ?_⟩
    clear hK K
    intro f hf
    have F1 := fun z => run_str (P := Try.prog) Try.underlying22 Try.underlying5 Try.underlying9 (hr3.below (hf z))
    simp only [pickI, Option.toList_some, List.cons_append, List.nil_append, List.getElem?_toArray, List.getElem?_cons_succ, List.getElem?_cons_zero]
    repeat (go_big_quiet_step (fail))
    refine wpQuiet_nil ?_
    clear F1 hf f
    refine seg_op (by simp only [List.getElem?_toArray, List.getElem?_cons_succ, List.getElem?_cons_zero]; rfl) fun K hK => ?_
    go_simp
    refine (HA.out _ ((hrA.below hb3).more hz3) ((hrB.below hb3).more hz3)).mono ?_
    rintro e w4 ⟨v4, m4, rfl, hown4, hb4⟩
    have hz4 := hb4.size
    obtain ⟨A6, c6, rfl⟩ := ownsRow_form hown4
    have hr4 := ownsRow_rd hown4
    refine hK.out _ _ ⟨fun w' => Below w4.heap.size w4 w', Below.refl _ _, fun x hx => hb4.trans (hx.mono hz4), ?_⟩
    clear hK K
    intro f hf
    have hb34 := hb3.trans (hb4.mono hz3)
    have hbd4 := hbd.trans (hb34.mono hzd)
    have F2 := fun z => run_str (P := Try.prog) Try.underlying22 Try.underlying5 Try.underlying9 (hr4.below (hf z))
    have F4 := fun z => run_str (P := Try.prog) Try.underlying22 Try.underlying5 Try.underlying9 (((hr1.below hbd4).more hbd4.size).below (hf z))
    have F5 := fun z => run_str (P := Try.prog) Try.underlying22 Try.underlying5 Try.underlying9 (((hr2.below hbd4).more hbd4.size).below (hf z))
    have F6 := fun z => run_str (P := Try.prog) Try.underlying22 Try.underlying5 Try.underlying9 (((hrA.below hb34).more hb34.size).below (hf z))
    simp only [pickI, Option.toList_some, List.cons_append, List.nil_append, List.getElem?_toArray, List.getElem?_cons_succ, List.getElem?_cons_zero]
    repeat (go_big_quiet_step (fail))
    refine wpQuiet_nil ?_
    clear F2 F4 F5 F6 hf f
    refine seg_op (by simp only [List.getElem?_toArray, List.getElem?_cons_succ, List.getElem?_cons_zero]; rfl) fun K hK => ?_
    go_simp
    refine (lives1 _).mono ?_
    rintro e w6 ⟨rfl, hb6⟩
    refine hK.out _ _ ⟨fun w' => Below w6.heap.size w6 w', Below.refl _ _, fun x hx => hb6.trans (hx.mono hb6.size), ?_⟩
    clear hK K
    intro f hf
    simp only [pickI, Option.toList_some, List.cons_append, List.nil_append, List.getElem?_toArray, List.getElem?_cons_succ, List.getElem?_cons_zero]
    repeat (go_big_quiet_step (fail))
    refine wpQuiet_nil ?_
    clear hf f
    go_wp2
    go_ret
    exact ⟨rfl, hbd'.trans ((hb34.trans (hb6.mono hb34.size)).mono hbd'.size)⟩

theorem octetPuts_walk {w : World} (A : Option Addr) (n c : Nat) (l : List UInt8) (h : Rd w w.heap.size 1 A n c (u8s l)) (W : Int) (_ : (Lit.int .i64 W).wf = true) (A2 : Option Addr) (n2 c2 : Nat) (ns : List Nat) (h2 : Rd w w.heap.size 1 A2 n2 c2 (u64s ns))
    (hns : Hid (∀ x ∈ ns, x < 18446744073709551616)) (s : List UInt8) (_ : s.length ≤ maxLen) :
    Calls Try.prog 3 #[.slice A n c, .int .i64 W, .slice A2 n2 c2, .string (str s)] w fun e w' => e = .returned (.bool true) ∧ Below w.heap.size w w' := by
  by_cases hb : n ≤ 1000 ∧ n2 ≤ 100 ∧ s.length ≤ 20000
  · exact octetPuts_late A A2 n c n2 c2 l s ns W w h h2 hns hb.1 hb.2.1 hb.2.2
  · exact octetPuts_early A A2 n c n2 c2 s W w (by omega)

namespace octetPuts
open Go.ChangeShapes Go.WideShapes Go.ChangeAt
set_option maxRecDepth 100000 in
theorem lifted (os : Os) (started : os.Started) (H : Type) (enc : TypeId × Value → H) :
    ReturnsInHanded {} Try.checked os 3 .any (Rows.octetPutsSpec.pre6 enc Try.prog Try.f3 Rows.octetPutsRow.domain false) (Rows.octetPutsSpec.post enc Try.prog Try.f3 false true false false) := by
  refine returnsInHanded_of_change (C := Try.checked) own started (by kernel_rfl) Try.func3
    (ChangeSpec.witness6 (enc := enc) (C := Try.checked) false ⟨#[], #[.slice none 0 0, .int .i64 0, .slice none 0 0, .string ⟨#[]⟩], []⟩ 8 (by kernel_rfl) (by kernel_rfl) (by kernel_rfl) (by kernel_rfl)) ?_
  intro W base args ds gs before hval0 hW _ _
  have hval : ∀ (j : Nat) t v, Try.f3.params[j]? = some t → args[j]? = some v → Value.okWide Try.prog W .any base t v := hval0
  have hW' := hW
  obtain ⟨p, q, hA0, hV, rfl, hfz, hnd⟩ := hW
  have hA : DataW.TrodAll enc Try.prog W 0 (fun _ => true) true Try.f3.params.toList args.toList ds p := hA0
  rw [Try.params3] at hA hval
  obtain ⟨v0, vs0, d0, ds0, p0, q0, hargs, rfl, rfl, h0, r0⟩ := trodAll_cons hA
  obtain ⟨v1, vs1, d1, ds1, p1, q1, rfl, rfl, rfl, h1, r1⟩ := trodAll_cons r0
  obtain ⟨v2, vs2, d2, ds2, p2, q2, rfl, rfl, rfl, h2, r2⟩ := trodAll_cons r1
  obtain ⟨v3, vs3, d3, ds3, p3, q3, rfl, rfl, rfl, h3, r3⟩ := trodAll_cons r2
  obtain ⟨rfl, rfl, rfl⟩ := trodAll_nil r3
  obtain rfl : args = #[v0, v1, v2, v3] := by cases args; simp_all
  obtain ⟨rfl, rfl⟩ := trodVars_none hV
  have k0 := h0
  have lt0 : ∀ x ∈ p0, x.block < W.heap.size := by obtain ⟨m, hm⟩ := k0; exact DataW.trod_lt m _ _ _ hm
  obtain ⟨a0, n0, c0, l0, rfl, w0⟩ := dec_bytes Try.underlying22 Try.underlying5 (by kernel_rfl) (hval 0 22 v0 rfl rfl) h0
  have k1 := h1
  have lt1 : ∀ x ∈ p1, x.block < W.heap.size := by obtain ⟨m, hm⟩ := k1; exact DataW.trod_lt m _ _ _ hm
  obtain ⟨x1, rfl, w1⟩ := dec_int Try.underlying3 (hval 1 3 v1 rfl rfl) h1
  have k2 := h2
  have lt2 : ∀ x ∈ p2, x.block < W.heap.size := by obtain ⟨m, hm⟩ := k2; exact DataW.trod_lt m _ _ _ hm
  obtain ⟨a2, n2, c2, l2, rfl, w2, b2⟩ := dec_u64s Try.underlying23 Try.underlying41 (by kernel_rfl) (hval 2 23 v2 rfl rfl) h2
  have k3 := h3
  have lt3 : ∀ x ∈ p3, x.block < W.heap.size := by obtain ⟨m, hm⟩ := k3; exact DataW.trod_lt m _ _ _ hm
  obtain ⟨l3, rfl, w3⟩ := dec_string Try.underlying9 (hval 3 9 v3 rfl rfl) h3
  clear hA0 hval0
  refine (octetPuts_walk a0 n0 c0 l0 w0 x1 w1 a2 n2 c2 l2 w2 b2 l3 w3).mono fun e W' ⟨he, bel⟩ => ?_
  subst he
  exact ⟨_, rfl, _, _, _, [], _, [], hW', trodAll_mk1 (shut_bool Try.underlying4 _), (trodAll_cons_mk (Below.trod laidOut (by kernel_rfl) (of_decide_eq_true (by kernel_rfl)) k0 bel lt0) (trodAll_cons_mk (Below.trod laidOut (by kernel_rfl) (of_decide_eq_true (by kernel_rfl)) k1 bel lt1) (trodAll_cons_mk (Below.trod laidOut (by kernel_rfl) (of_decide_eq_true (by kernel_rfl)) k2 bel lt2) (trodAll_cons_mk (Below.trod laidOut (by kernel_rfl) (of_decide_eq_true (by kernel_rfl)) k3 bel lt3) trodAll_mk0)))), rfl, bel.frame _, fun h => by cases h⟩

theorem over : Rows.octetPutsRow.holds Try.pinned (OpenSpec.ofChange Rows.octetPutsSpec) :=
  OpenClaim.holds_of_wide 3 Try.f3 rfl rfl rfl rfl rfl rfl rfl ⟨rfl, rfl, rfl, rfl, rfl⟩ rfl rfl rfl rfl rfl (by kernel_rfl) Try.func3 (by kernel_rfl)
    (of_decide_eq_true (by kernel_rfl)) (by unfold Func.isWrapper; first | (rw [if_pos (by decide +kernel)]; kernel_rfl) | (rw [if_neg (by decide +kernel)]; exact ⟨rfl, rfl⟩))
    (fun os started H enc _ => lifted os started H enc)
/-- The given statement. -/
theorem proved : Rows.OctetPutsSaid := over
end octetPuts

end Go.Proofs.Ythaijdgaleifaaa

/- OctetBack: a number that fits, and a text, are read as they were put, whatever stands behind them, and a number that is read of some bytes is put as these: the law answers true for all numbers, widths, texts and bytes. -/
import Derived.Test.YthaijdgaleifaaaLivesa
import Derived.Test.YthaijdgaleifaaaRowkit
import Derived.Test.YthaijdgaleifaaaSegs
namespace Go.Proofs.Ythaijdgaleifaaa
open Go.RowKit

theorem octetBack_early (N W : Int) (A : Option Addr) (n c : Nat) (s : List UInt8) (w : World) (hbig : W < 1 ∨ 8 < W ∨ 16384 < s.length ∨ 1000 < n) :
    Calls Try.prog 5 #[.int .u64 N, .int .i64 W, .string (str s), .slice A n c] w fun e w' => e = .returned (.bool true) ∧ Below w.heap.size w w' := by
  have hz : (str s).size = s.length := rfl
  by_cases h1 : W < 1
  · go_enter Try.func5, Try.ntmps5
    go_wp2_with (go_at_call 10; refine (lives1 _).mono ?_; rintro e w6 ⟨rfl, hb6⟩)
    go_ret
    exact ⟨rfl, hb6⟩
  · have d1 : decide (W < 1) = false := by simpa using h1
    by_cases h2 : 8 < W
    · have d2 : decide (8 < W) = true := by simpa using h2
      go_enter Try.func5, Try.ntmps5
      go_wp2_with (go_at_call 10; refine (lives1 _).mono ?_; rintro e w6 ⟨rfl, hb6⟩)
      go_ret
      exact ⟨rfl, hb6⟩
    · have d2 : decide (8 < W) = false := by simpa using h2
      by_cases h3 : 16384 < s.length
      · have d3 : decide (16384 < s.length) = true := by simpa using h3
        go_enter Try.func5, Try.ntmps5
        go_wp2_with (go_at_call 10; refine (lives1 _).mono ?_; rintro e w6 ⟨rfl, hb6⟩)
        go_ret
        exact ⟨rfl, hb6⟩
      · have d3 : decide (16384 < s.length) = false := by simpa using h3
        have d4 : decide (1000 < n) = true := by simp; omega
        go_enter Try.func5, Try.ntmps5
        go_wp2_with (go_at_call 10; refine (lives1 _).mono ?_; rintro e w6 ⟨rfl, hb6⟩)
        go_ret
        exact ⟨rfl, hb6⟩

theorem mask_u64 (N k : Nat) (hN : N < 18446744073709551616) (hk : k < 8) : bits .and .u64 (N : Int) (IntKind.u64.wrap (IntKind.u64.wrap (2 ^ (8 * k)) - 1)) = ((N % 256 ^ k : Nat) : Int) := by
  have e256 : 256 ^ k = 2 ^ (8 * k) := by rw [Nat.pow_mul]
  have hp : (2 : Int) ^ (8 * k) = ((2 ^ (8 * k) : Nat) : Int) := by simp
  have h1 : 2 ^ (8 * k) ≤ 2 ^ 56 := Nat.pow_le_pow_right (by decide) (by omega)
  have h2 : 0 < 2 ^ (8 * k) := Nat.pow_pos (by decide)
  have hw : IntKind.u64.wrap (IntKind.u64.wrap (2 ^ (8 * k)) - 1) = ((2 ^ (8 * k) - 1 : Nat) : Int) := by
    rw [hp]
    generalize 2 ^ (8 * k) = p at *
    simp only [IntKind.wrap_u64]
    omega
  rw [hw, u64_and_nat N _ hN (by omega), Nat.and_two_pow_sub_one_eq_mod, e256]

/-- What a number that is put masked comes to. -/
theorem masked (N k : Nat) (hN : N < 18446744073709551616) (hk8 : k ≤ 8) : ∃ M : Nat, M < 256 ^ k ∧ ((k < 8 ∧ bits .and .u64 (N : Int) (IntKind.u64.wrap (IntKind.u64.wrap (2 ^ (8 * k)) - 1)) = (M : Int)) ∨ (¬ k < 8 ∧ (N : Int) = (M : Int))) := by
  by_cases hk : k < 8
  · exact ⟨N % 256 ^ k, Nat.mod_lt _ (Nat.pow_pos (by decide)), .inl ⟨hk, mask_u64 N k hN hk⟩⟩
  · obtain rfl : k = 8 := by omega
    exact ⟨N, hN, .inr ⟨by decide, rfl⟩⟩

/-- What is read of what was put. -/
theorem st_back (k M : Nat) (s l : List UInt8) (hk1 : 1 ≤ k) (hk8 : k ≤ 8) (hM : M < 256 ^ k) :
    St.num ⟨([] ++ puts k [M]) ++ le 2 s.length ++ s ++ l, false⟩ (k : Int) = (M, ⟨le 2 s.length ++ s ++ l, false⟩) := by
  have hp : puts k [M] = le k M := by simp [puts]
  rw [hp, List.nil_append, List.append_assoc, List.append_assoc]
  unfold St.num St.next
  rw [if_pos ⟨by omega, by omega⟩]
  simp only [Int.toNat_natCast]
  rw [if_pos ⟨by omega, by simp only [List.length_append, le_len]; omega⟩]
  rw [List.take_left' (le_len k M), List.drop_left' (le_len k M), unle_le, Nat.mod_eq_of_lt hM, List.append_assoc]
theorem st_back2 (s l : List UInt8) (hs : s.length ≤ 16384) : St.text ⟨le 2 s.length ++ s ++ l, false⟩ = (s, ⟨l, false⟩) := by
  have e : St.num ⟨le 2 s.length ++ s ++ l, false⟩ 2 = (s.length, ⟨s ++ l, false⟩) := by
    unfold St.num St.next
    rw [if_pos ⟨by omega, by omega⟩, List.append_assoc]
    rw [if_pos ⟨by omega, by simp only [List.length_append, le_len]; omega⟩]
    rw [show ((2 : Int).toNat) = 2 from rfl, List.take_left' (le_len 2 _), List.drop_left' (le_len 2 _), unle_le, Nat.mod_eq_of_lt (by omega)]
  unfold St.text
  rw [e]
  simp only
  rw [if_neg (by omega)]
  unfold St.next
  rw [if_pos ⟨by omega, by simp only [List.length_append]; omega⟩]
  simp

theorem num_back (g k M : Nat) (s l : List UInt8) (w : World) (hk1 : 1 ≤ k) (hk8 : k ≤ 8) (hM : Hid (M < 256 ^ k)) (h : Rdr w g ⟨[] ++ puts k [M] ++ le 2 s.length ++ s ++ l, false⟩) :
    Calls Try.prog 16 #[.pointer (some ⟨g, 0, none⟩), .int .i64 (k : Int)] w fun e w' => e = .returned (.int .u64 (M : Int)) ∧ Rdr w' g ⟨le 2 s.length ++ s ++ l, false⟩ ∧ w.grownBy w' (some g) := by
  have := num_all g _ (k : Int) w h
  rw [st_back k M s l hk1 hk8 hM.out] at this
  exact this
theorem text_back (g : Nat) (s l : List UInt8) (w : World) (hs : s.length ≤ 16384) (h : Rdr w g ⟨le 2 s.length ++ s ++ l, false⟩) :
    Calls Try.prog 20 #[.pointer (some ⟨g, 0, none⟩)] w fun e w' => e = .returned (.string (str s)) ∧ Rdr w' g ⟨l, false⟩ ∧ w.grownBy w' (some g) := by
  have := text_any g _ w h
  rw [st_back2 s l hs] at this
  exact this
theorem num_front (g k : Nat) (l : List UInt8) (w : World) (hk1 : 1 ≤ k) (hk8 : k ≤ 8) (hl : k ≤ l.length) (h : Rdr w g ⟨l, false⟩) :
    Calls Try.prog 16 #[.pointer (some ⟨g, 0, none⟩), .int .i64 (k : Int)] w fun e w' => e = .returned (.int .u64 ((unle (l.take k) : Nat) : Int)) ∧ Rdr w' g ⟨l.drop k, false⟩ ∧ w.grownBy w' (some g) := by
  have := num_all g _ (k : Int) w h
  have e : St.num ⟨l, false⟩ (k : Int) = (unle (l.take k), ⟨l.drop k, false⟩) := by
    unfold St.num St.next
    rw [if_pos ⟨by omega, by omega⟩]
    simp only [Int.toNat_natCast]
    rw [if_pos ⟨by omega, by omega⟩]
  rw [e] at this
  exact this

set_option maxHeartbeats 1000000 in
theorem octetBack_late (N k : Nat) (A : Option Addr) (n c : Nat) (l s : List UInt8) (w : World) (hN : Hid (N < 18446744073709551616)) (h : Rd w w.heap.size 1 A n c (u8s l)) (hk1 : 1 ≤ k) (hk8 : k ≤ 8) (hs : s.length ≤ 16384) (hn : n ≤ 1000) :
    Calls Try.prog 5 #[.int .u64 (N : Int), .int .i64 (k : Int), .string (str s), .slice A n c] w fun e w' => e = .returned (.bool true) ∧ Below w.heap.size w w' := by
  have hz : (str s).size = s.length := rfl
  obtain rfl : l.length = n := by have := h.len; rwa [u8s_len] at this
  obtain ⟨M, hM, hcase⟩ := masked N k hN.out hk8
  have qs : ((str s).toList != (str s).toList) = false := bne_self_eq_false _
  have qm : ((M : Int) != (M : Int)) = false := bne_self_eq_false _
  have ql : ((l.length : Int) != (l.length : Int)) = false := bne_self_eq_false _
  have d1 : decide ((k : Int) < 1) = false := by simp; omega
  have d2 : decide ((8 : Int) < (k : Int)) = false := by simp; omega
  have d3 : decide (16384 < s.length) = false := by simp; omega
  have d4 : decide (1000 < l.length) = false := by simp; omega
  have HM := Lib.hid hM
  clear hM
  rcases hcase with ⟨hk, hmask⟩ | ⟨hk, hmask⟩
  all_goals
    go_enter Try.func5, Try.ntmps5
    go_wp2_with (first
      | (go_at_call 13; refine (put_good none _ 0 0 1 1 [] [M] k _ Rd.nil_ (Rd.lit w #[.int .u64 (M : Int)] _ rfl (by unfold maxLen; omega) (by simp)) (by omega) hk1 hk8).mono ?_; rintro e w1 ⟨v1, rfl, hown1, hb1⟩; have hz1 := hb1.size
         rw [show 0 + 1 * k = k from by omega] at hown1
         obtain ⟨A1, c1, rfl⟩ := ownsRow_form hown1
         have hr1 := ownsRow_rd hown1)
      | (go_at_call 11; refine (texts_any _ _ _ _ s _ hr1 (by omega) hs).mono ?_; rintro e w2 ⟨v2, rfl, hown2, hb2⟩; have hz2 := hb2.size
         obtain ⟨A2, c2, rfl⟩ := ownsRow_form hown2
         have hr2 := ownsRow_rd hown2)
      | (at_builtin; refine wpL_app (o := ⟨some 51, _, _, _, _, _⟩) (v := .slice (some ⟨w2.heap.size, 0, none⟩) 0 0) (y := .slice A2 (k + 2 + s.length) c2) rfl (.tmp 49) (.tmp 50) _ _ rfl E_u8 rfl rfl (World.ownsRow_lit (base := w2.heap.size) w2 #[] 0 (Nat.le_refl _) (Nat.zero_le _) rfl)
           ((hr2.below ((Below.refl _ _).alloc (Nat.le_refl _) _)).src Try.underlying22 (u8s_one _)) (by unfold maxLen; omega) (by omega) (by simp) ?_; intro v3 w3 hown3 hg3 hat3
         have hb23 : Below w2.heap.size w2 w3 := ((Below.refl _ _).alloc (Nat.le_refl _) _).grown hg3 (by simp) (fun j e => by cases e; exact Nat.le_refl _)
         have hb02 : Below w.heap.size w w2 := ((Below.refl _ _).alloc (Nat.le_refl _) _).trans ((hb1.mono (by simp)).trans (hb2.mono (by simp at hz1; omega)))
         have hb03 := hb02.trans (hb23.mono hb02.size)
         have hr3 := h.below hb03
         rw [Nat.zero_add, Array.toList_empty, List.nil_append] at hown3)
      | (at_builtin; refine wpL_app (o := ⟨some 53, _, _, _, _, _⟩) (v := v3) (y := .slice A l.length c) rfl (.tmp 51) (.tmp 52) _ _ rfl E_u8 rfl rfl hown3 (hr3.src Try.underlying22 (u8s_one _)) (by unfold maxLen; omega) (by omega) hb23.size ?_; intro v4 w4 hown4 hg4 hat4
         have hb24 : Below w2.heap.size w2 w4 := hb23.grown hg4 hb23.size (fun j e => (hown3.lt j e).1)
         have hb04 := hb02.trans (hb24.mono hb02.size)
         obtain ⟨A4, c4, rfl⟩ := ownsRow_form hown4
         rw [← u8s_app] at hown4
         have hr4 := ownsRow_rd hown4)
      | (go_at_call 15; (with_reducible refine (read_any _ _ _ _ _ hr4 (by omega)).mono ?_); rintro e w5 ⟨g, rfl, hg, hR, hb5⟩)
      | (go_at_call 16; (with_reducible refine (num_back _ _ _ _ _ _ hk1 hk8 HM hR).mono ?_); rintro e w6 ⟨rfl, hR6, hg6⟩)
      | (go_at_call 20; (with_reducible refine (text_back _ _ _ _ hs hR6).mono ?_); rintro e w7 ⟨rfl, hR7, hg7⟩)
      | (go_at_call 23; (with_reducible refine (left_any _ _ _ hR7).mono ?_); rintro e w8 ⟨rfl, rfl⟩)
      | (go_at_call 25; (with_reducible refine (bad_any _ _ _ hR7).mono ?_); rintro e w9 ⟨rfl, rfl⟩
         have hb05 := hb04.trans (hb5.mono hb04.size)
         have hb07 : Below w.heap.size w w7 := (hb05.grown hg6 hb05.size (fun j e => by cases e; exact Nat.le_trans hb04.size hg)).grown hg7 (Nat.le_trans hb05.size hg6.size) (fun j e => by cases e; exact Nat.le_trans hb04.size hg)
         have hrl := (h.below hb07).more hb07.size)
      | fail)
    · refine (lives1 _).mono ?_
      rintro e w8 ⟨rfl, hb8⟩
      go_wp2
      go_ret
      exact ⟨rfl, hb07.trans (hb8.mono hb07.size)⟩
    · have hkl : k ≤ l.length := by omega
      clear hmask HM hr1 hr2 hr3 hown1 hown2 hown3 hown4 hr4 hR hR6 hR7
      refine (read_any _ _ _ _ _ hrl (by omega)).mono ?_
      rintro e w8 ⟨g2, rfl, hg2, hR8, hb8⟩
      go_wp2_with fail
      refine (num_front _ _ _ _ hk1 hk8 hkl hR8).mono ?_
      rintro e w9 ⟨rfl, hR9, hg9⟩
      have hb79 : Below w7.heap.size w7 w9 := hb8.grown hg9 hb8.size (fun j e => by cases e; exact hg2)
      have hb09 := hb07.trans (hb79.mono hb07.size)
      go_wp2
      have hnc : (k : Int) ≤ (c : Int) := by have := h.1; omega
      refine wp_grow [([0, 1, 5, 6, 7, 8], 2), ([], 3), ([4, 9, 10], 11)] [12, 13] (by kernel_rfl) (by kernel_rfl) (fun d _ _ _ _ h => by cases d <;> exact h) fun wd hbd => ?_
      have hb0d := hb09.trans (hbd.mono hb09.size)
      have hrd := ((h.below hb09).more hb09.size).pre hkl
      rw [← u8s_take] at hrd
      have hle : le k (unle (l.take k)) = l.take k := by
        have := le_unle (l.take k)
        rw [List.length_take, Nat.min_eq_left hkl] at this
        exact this
      generalize unle (l.take k) = X at *
      have HLE := Lib.hid hle
      clear hle
      have qx : ((str (l.take k)).toList == (str (l.take k)).toList) = true := beq_self_eq_true _
      intro f hf
      have F1 := fun z => run_str (P := Try.prog) Try.underlying22 Try.underlying5 Try.underlying9 (hrd.below (hf z))
      simp only [pickI, Option.toList_some, List.cons_append, List.nil_append, List.getElem?_toArray, List.getElem?_cons_succ, List.getElem?_cons_zero]
      repeat (go_big_quiet_step (fail))
      refine wpQuiet_nil ?_
      clear F1 hf f
      refine seg_op (by simp only [List.getElem?_toArray, List.getElem?_cons_succ, List.getElem?_cons_zero]; rfl) fun K hK => ?_
      go_simp
      refine hK.out _ _ ⟨fun x => Below (wd.heap.size + 1) (wd.alloc (.cells #[.int .u64 (X : Int)] 41)) x, Below.refl _ _, fun x hx => hbd.trans ((((Below.refl _ _).alloc (Nat.le_refl _) _).trans (hx.mono (Nat.le_succ _))).mono hbd.size), ?_⟩
      clear hK K
      intro f hf
      refine wpQuiet_nil ?_
      clear hf f
      refine seg_op (by simp only [List.getElem?_toArray, List.getElem?_cons_succ, List.getElem?_cons_zero]; rfl) fun K hK => ?_
      go_simp
      refine (put_good none _ 0 0 1 1 [] [X] k _ Rd.nil_ (Rd.lit wd #[.int .u64 (X : Int)] _ rfl (by unfold maxLen; omega) (by simp)) (by omega) hk1 hk8).mono ?_
      rintro e wp ⟨vp, rfl, hownp, hbp0⟩
      rw [show 0 + 1 * k = k from by omega] at hownp
      have hbp : Below wd.heap.size wd wp := ((Below.refl _ _).alloc (Nat.le_refl _) _).trans (hbp0.mono (by simp))
      have hzp := hbp.size
      obtain ⟨Ap, cp, rfl⟩ := ownsRow_form hownp
      have hrp := ownsRow_rd hownp
      rw [show [] ++ puts k [X] = l.take k from by simp [puts, HLE.out]] at hrp
      refine hK.out _ _ ⟨fun x => Below wp.heap.size wp x, Below.refl _ _, fun x hx => ?_, ?_⟩
      · exact (hbp0.mono (by simp)).trans (hx.mono (by have := hbp0.size; simp at this; omega))
      clear hK K
      intro f hf
      have F2 := fun z => run_str (P := Try.prog) Try.underlying22 Try.underlying5 Try.underlying9 (hrp.below (hf z))
      simp only [pickI, Option.toList_some, List.cons_append, List.nil_append, List.getElem?_toArray, List.getElem?_cons_succ, List.getElem?_cons_zero]
      repeat (go_big_quiet_step (fail))
      refine wpQuiet_nil ?_
      clear F2 hf f
      refine seg_op (by simp only [List.getElem?_toArray, List.getElem?_cons_succ, List.getElem?_cons_zero]; rfl) fun K hK => ?_
      go_simp
      refine (lives1 _).mono ?_
      rintro e wl ⟨rfl, hbl⟩
      refine hK.out _ _ ⟨fun x => Below wl.heap.size wl x, Below.refl _ _, fun x hx => hbl.trans (hx.mono hbl.size), ?_⟩
      clear hK K
      intro f hf
      simp only [pickI, Option.toList_some, List.cons_append, List.nil_append, List.getElem?_toArray, List.getElem?_cons_succ, List.getElem?_cons_zero]
      repeat (go_big_quiet_step (fail))
      refine wpQuiet_nil ?_
      clear hf f
      go_wp2
      go_ret
      have h1 := hb0d.trans (hbp.mono hb0d.size)
      exact ⟨rfl, h1.trans (hbl.mono h1.size)⟩

theorem octetBack_walk {w : World} (x : Int) (hx : (Lit.int .u64 x).wf = true) (W : Int) (_ : (Lit.int .i64 W).wf = true) (s : List UInt8) (_ : s.length ≤ maxLen) (A : Option Addr) (n c : Nat) (l : List UInt8) (h : Rd w w.heap.size 1 A n c (u8s l)) :
    Calls Try.prog 5 #[.int .u64 x, .int .i64 W, .string (str s), .slice A n c] w fun e w' => e = .returned (.bool true) ∧ Below w.heap.size w w' := by
  by_cases hb : 1 ≤ W ∧ W ≤ 8 ∧ s.length ≤ 16384 ∧ n ≤ 1000
  · obtain ⟨h1, h8, hs, hn⟩ := hb
    simp [Lit.wf, IntKind.min, IntKind.max, IntKind.signed, IntKind.bits] at hx
    obtain ⟨N, rfl⟩ := Int.eq_ofNat_of_zero_le hx.1
    obtain ⟨k, rfl⟩ := Int.eq_ofNat_of_zero_le (show 0 ≤ W by omega)
    exact octetBack_late N k A n c l s w (Lib.hid (by omega)) h (by omega) (by omega) hs hn
  · exact octetBack_early x W A n c s w (by omega)

namespace octetBack
open Go.ChangeShapes Go.WideShapes Go.ChangeAt
set_option maxRecDepth 100000 in
theorem lifted (os : Os) (started : os.Started) (H : Type) (enc : TypeId × Value → H) :
    ReturnsInHanded {} Try.checked os 5 .any (Rows.octetBackSpec.pre6 enc Try.prog Try.f5 Rows.octetBackRow.domain false) (Rows.octetBackSpec.post enc Try.prog Try.f5 false true false false) := by
  refine returnsInHanded_of_change (C := Try.checked) own started (by kernel_rfl) Try.func5
    (ChangeSpec.witness6 (enc := enc) (C := Try.checked) false ⟨#[], #[.int .u64 0, .int .i64 0, .string ⟨#[]⟩, .slice none 0 0], []⟩ 8 (by kernel_rfl) (by kernel_rfl) (by kernel_rfl) (by kernel_rfl)) ?_
  intro W base args ds gs before hval0 hW _ _
  have hval : ∀ (j : Nat) t v, Try.f5.params[j]? = some t → args[j]? = some v → Value.okWide Try.prog W .any base t v := hval0
  have hW' := hW
  obtain ⟨p, q, hA0, hV, rfl, hfz, hnd⟩ := hW
  have hA : DataW.TrodAll enc Try.prog W 0 (fun _ => true) true Try.f5.params.toList args.toList ds p := hA0
  rw [Try.params5] at hA hval
  obtain ⟨v0, vs0, d0, ds0, p0, q0, hargs, rfl, rfl, h0, r0⟩ := trodAll_cons hA
  obtain ⟨v1, vs1, d1, ds1, p1, q1, rfl, rfl, rfl, h1, r1⟩ := trodAll_cons r0
  obtain ⟨v2, vs2, d2, ds2, p2, q2, rfl, rfl, rfl, h2, r2⟩ := trodAll_cons r1
  obtain ⟨v3, vs3, d3, ds3, p3, q3, rfl, rfl, rfl, h3, r3⟩ := trodAll_cons r2
  obtain ⟨rfl, rfl, rfl⟩ := trodAll_nil r3
  obtain rfl : args = #[v0, v1, v2, v3] := by cases args; simp_all
  obtain ⟨rfl, rfl⟩ := trodVars_none hV
  have k0 := h0
  have lt0 : ∀ x ∈ p0, x.block < W.heap.size := by obtain ⟨m, hm⟩ := k0; exact DataW.trod_lt m _ _ _ hm
  obtain ⟨x0, rfl, w0⟩ := dec_int Try.underlying41 (hval 0 41 v0 rfl rfl) h0
  have k1 := h1
  have lt1 : ∀ x ∈ p1, x.block < W.heap.size := by obtain ⟨m, hm⟩ := k1; exact DataW.trod_lt m _ _ _ hm
  obtain ⟨x1, rfl, w1⟩ := dec_int Try.underlying3 (hval 1 3 v1 rfl rfl) h1
  have k2 := h2
  have lt2 : ∀ x ∈ p2, x.block < W.heap.size := by obtain ⟨m, hm⟩ := k2; exact DataW.trod_lt m _ _ _ hm
  obtain ⟨l2, rfl, w2⟩ := dec_string Try.underlying9 (hval 2 9 v2 rfl rfl) h2
  have k3 := h3
  have lt3 : ∀ x ∈ p3, x.block < W.heap.size := by obtain ⟨m, hm⟩ := k3; exact DataW.trod_lt m _ _ _ hm
  obtain ⟨a3, n3, c3, l3, rfl, w3⟩ := dec_bytes Try.underlying22 Try.underlying5 (by kernel_rfl) (hval 3 22 v3 rfl rfl) h3
  clear hA0 hval0
  refine (octetBack_walk x0 w0 x1 w1 l2 w2 a3 n3 c3 l3 w3).mono fun e W' ⟨he, bel⟩ => ?_
  subst he
  exact ⟨_, rfl, _, _, _, [], _, [], hW', trodAll_mk1 (shut_bool Try.underlying4 _), (trodAll_cons_mk (Below.trod laidOut (by kernel_rfl) (of_decide_eq_true (by kernel_rfl)) k0 bel lt0) (trodAll_cons_mk (Below.trod laidOut (by kernel_rfl) (of_decide_eq_true (by kernel_rfl)) k1 bel lt1) (trodAll_cons_mk (Below.trod laidOut (by kernel_rfl) (of_decide_eq_true (by kernel_rfl)) k2 bel lt2) (trodAll_cons_mk (Below.trod laidOut (by kernel_rfl) (of_decide_eq_true (by kernel_rfl)) k3 bel lt3) trodAll_mk0)))), rfl, bel.frame _, fun h => by cases h⟩

theorem over : Rows.octetBackRow.holds Try.pinned (OpenSpec.ofChange Rows.octetBackSpec) :=
  OpenClaim.holds_of_wide 5 Try.f5 rfl rfl rfl rfl rfl rfl rfl ⟨rfl, rfl, rfl, rfl, rfl⟩ rfl rfl rfl rfl rfl (by kernel_rfl) Try.func5 (by kernel_rfl)
    (of_decide_eq_true (by kernel_rfl)) (by unfold Func.isWrapper; first | (rw [if_pos (by decide +kernel)]; kernel_rfl) | (rw [if_neg (by decide +kernel)]; exact ⟨rfl, rfl⟩))
    (fun os started H enc _ => lifted os started H enc)
/-- The given statement. -/
theorem proved : Rows.OctetBackSaid := over
end octetBack

end Go.Proofs.Ythaijdgaleifaaa

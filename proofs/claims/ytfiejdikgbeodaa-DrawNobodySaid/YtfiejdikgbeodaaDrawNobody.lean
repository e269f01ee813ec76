/- DrawNobody: choices that no call made are noughts: the law answers true for every int. -/
import Derived.Test.YtfiejdikgbeodaaDlives
import Derived.Test.YtfiejdikgbeodaaRowkit
namespace Go.Proofs.Ytfiejdikgbeodaa
open Go.RowKit

theorem taken_nil (k x : Nat) (h : x = 0) : taken k x [] = 0 := by
  subst h
  induction k with
  | zero => rfl
  | succ k ih => exact ih
theorem numOf_nil (n : Int) : numOf n [] = 0 := by
  unfold numOf
  split
  · rfl
  · rw [taken_nil _ _ rfl, Nat.zero_mod]

section
variable {w : World} {p : Option Addr}
theorem nb_byte {B : Nat} (h : Sr B 61 w p []) : Calls Try.prog 23 #[.pointer p] w fun e w' => e = .returned (.int .u8 0) ∧ Sr B 61 w' p [] ∧ w.grownBy w' (gof p) := byte_of h
theorem nb_left {B : Nat} (h : Sr B 61 w p []) : Calls Try.prog 35 #[.pointer p] w fun e w' => e = .returned (.int .i64 0) ∧ w = w' := left_of h
theorem nb_num {B : Nat} (n : Int) (hn : (Lit.int .i64 n).wf = true) (h : Sr B 61 w p []) : Calls Try.prog 25 #[.pointer p, .int .i64 n] w fun e w' => e = .returned (.int .i64 0) ∧ Sr B 61 w' p [] ∧ w.grownBy w' (gof p) := by
  have := num_of n hn h
  rwa [numOf_nil, List.drop_nil] at this
theorem nb_bytes {B : Nat} (n : Int) (h : Sr B 61 w p []) : Calls Try.prog 27 #[.pointer p, .int .i64 n] w fun e w' => ∃ A c, e = .returned (.slice A (cap n) c) ∧ Sr B 61 w' p [] ∧ w.grownBy w' (gof p) := by
  refine (bytes_of n h).mono ?_
  rintro e w' ⟨v, rfl, hown, hS, hg⟩
  obtain ⟨A, c, rfl⟩ := ownsRow_form hown
  rw [List.drop_nil] at hS
  exact ⟨A, c, rfl, hS, hg⟩
theorem nb_nums {B : Nat} (n : Int) (h : Sr B 61 w p []) : Calls Try.prog 31 #[.pointer p, .int .i64 n, .int .i64 3] w fun e w' => ∃ A c, e = .returned (.slice A (cap n) c) ∧ Sr B 61 w' p [] ∧ w.grownBy w' (gof p) := by
  refine (nums_of' n 3 (by decide) h).mono ?_
  rintro e w' ⟨v, rfl, hown, hS, hg⟩
  obtain ⟨A, c, rfl⟩ := ownsRow_form hown
  rw [List.drop_nil] at hS
  exact ⟨A, c, rfl, hS, hg⟩
theorem nb_text {B : Nat} (n : Int) (h : Sr B 61 w p []) : Calls Try.prog 29 #[.pointer p, .int .i64 n] w fun e w' => ∃ s : ByteArray, e = .returned (.string s) ∧ s.size = cap n ∧ Sr B 61 w' p [] ∧ w.grownBy w' (gof p) := by
  refine (text_of n h).mono ?_
  rintro e w' ⟨rfl, hS, hg⟩
  rw [List.drop_nil] at hS
  exact ⟨_, rfl, by rw [str_size, textL, List.length_map, numsL_len], hS, hg⟩
theorem nb_pick {B : Nat} (h : Sr B 61 w p []) : Calls Try.prog 33 #[.pointer p, .slice (some ⟨w.heap.size, 0, none⟩) 2 2] (w.alloc (.cells #[.int .i64 3, .int .i64 4] 3)) fun e w' => e = .returned (.int .i64 3) ∧ Sr B 61 w' p [] ∧ w.grownBy w' (gof p) := by
  have hlt := h.lt
  refine (pick_of (n := 2) [3, 4] (h.below ((Below.refl _ _).alloc (Nat.le_refl _) _)) (Rd.lit w #[.int .i64 3, .int .i64 4] _ rfl (by unfold maxLen; omega) (by simp)) (by omega) (by omega) (fun e => by have := hlt _ e; omega)).mono ?_
  rintro e w' ⟨rfl, hS, hg⟩
  rw [List.drop_nil] at hS
  rw [numOf_nil]
  exact ⟨rfl, hS, grownBy_trans (below_grown ((Below.refl _ _).alloc (Nat.le_refl _) _) (gof p)) hg (.inl rfl)⟩
end

/-- What holds between two rounds. -/
def NG (w wr : World) : Prop := wr.heap[w.heap.size + 1]? = some (.cells #[.pointer none, .pointer (some ⟨w.heap.size, 0, none⟩)] 44 (0, 0)) ∧ Sr w.heap.size 61 wr (some ⟨w.heap.size, 0, none⟩) [] ∧ Below w.heap.size w wr
theorem NG.step  {w wr w' : World} {p : Option Addr} (h : NG w wr) (hp : p = none ∨ p = some ⟨w.heap.size, 0, none⟩) (hS : Sr w.heap.size 61 w' p []) (hg : wr.grownBy w' (gof p)) : NG w w' := by
  obtain ⟨h1, h2, h3⟩ := h
  rcases hp with rfl | rfl
  · exact ⟨row_far h1 hg (by simp [gof]), h2.far hg (fun r hr => by cases hr), h3.grown hg h3.size (fun r hr => by cases hr)⟩
  · refine ⟨row_far h1 hg (by simp [gof]), hS, h3.grown hg h3.size (fun r hr => ?_)⟩
    obtain rfl : w.heap.size = r := Option.some.inj hr
    exact Nat.le_refl _
theorem NG.sr  {w wr : World} {p : Option Addr} (h : NG w wr) (hp : p = none ∨ p = some ⟨w.heap.size, 0, none⟩) : Sr w.heap.size 61 wr p [] := by
  rcases hp with rfl | rfl
  · exact .inl ⟨rfl, rfl⟩
  · exact h.2.1
theorem NG.at_ {w wr : World} (h : NG w wr) (i : Nat) (hi : i < 2) : ∃ p, (p = none ∨ p = some ⟨w.heap.size, 0, none⟩) ∧ wr.cell? ⟨w.heap.size + 1, i, none⟩ = some (.pointer p) := by
  have hc := cell_of_row wr (w.heap.size + 1) i _ _ _ h.1
  have : i = 0 ∨ i = 1 := by omega
  rcases this with rfl | rfl
  · exact ⟨none, .inl rfl, hc⟩
  · exact ⟨_, .inr rfl, hc⟩

set_option maxRecDepth 8000 in
theorem drawNobody_walk  {w : World} (n : Int) (hn : (Lit.int .i64 n).wf = true) :
    Calls Try.prog 9 #[.int .i64 n] w fun e w' => e = .returned (.bool true) ∧ Below w.heap.size w w' := by
  have HN := Lib.hid hn
  clear hn
  by_cases hbig : 200 < n
  · go_enter Try.func9, Try.ntmps9
    go_wp2_with (go_at_call 21; refine (dlives _).mono ?_; rintro e w3 ⟨rfl, hb3⟩)
    go_ret
    exact ⟨rfl, hb3⟩
  · have hd : decide (200 < n) = false := by simpa using hbig
    obtain ⟨K, hK⟩ : ∃ K, K = cap n := ⟨_, rfl⟩
    have hmx : max n 0 = (K : Int) := by rw [hK]; unfold cap; omega
    have hKn : (K : Int) = max n 0 := hmx.symm
    have hbytes := fun (w1 : World) (p : Option Addr) (h : Sr w.heap.size 61 w1 p []) => nb_bytes n h
    have htext := fun (w1 : World) (p : Option Addr) (h : Sr w.heap.size 61 w1 p []) => nb_text n h
    have hnums := fun (w1 : World) (p : Option Addr) (h : Sr w.heap.size 61 w1 p []) => nb_nums n h
    rw [← hK] at hbytes htext hnums
    have HB := Lib.hid hbytes
    have HT := Lib.hid htext
    have HM := Lib.hid hnums
    have HK := Lib.hid hK
    clear hbytes htext hnums hK hbig hKn
    go_enter Try.func9, Try.ntmps9
    go_wp2_with (go_at_call 34; refine clone_nil.mono ?_; rintro e w3 ⟨rfl, rfl⟩)
    obtain ⟨W0, hW0, hz0, hr0, hr1, hb0⟩ := boxes2 w #[.slice none 0 0] #[.pointer none, .pointer (some ⟨w.heap.size, 0, none⟩)] 61 44
    rw [← hW0]
    clear hW0
    have hG0 : NG w W0 := ⟨hr1, .inr ⟨_, none, 0, 0, rfl, Nat.le_refl _, hr0, Rd.nil_⟩, hb0⟩
    clear hz0 hr0 hr1 hb0
    go_loopw [17] (fun ir wr => ∃ i : Nat, i ≤ 2 ∧ ir = .int .i64 (i : Int) ∧ NG w wr) (fun ir _ => 2 - (intOf ir).toNat)
    case atStart => exact ⟨0, Nat.zero_le _, rfl, hG0⟩
    case round =>
      obtain ⟨i, hi, rfl, hG⟩ := hrel
      by_cases hi2 : i < 2
      · obtain ⟨p, hp, hcell⟩ := hG.at_ i hi2
        have h1 := hG.sr hp
        go_wp2_with (first
          | (go_at_call 23; refine (nb_byte h1).mono ?_; rintro e w1 ⟨rfl, h2, g1⟩; have hG1 := hG.step hp h2 g1)
          | (go_at_call 25; refine (nb_num n HN.out h2).mono ?_; rintro e w2 ⟨rfl, h3, g2⟩; have hG2 := hG1.step hp h3 g2)
          | (go_at_call 27; refine (HB.out _ _ h3).mono ?_; rintro e w3 ⟨A3, c3, rfl, h4, g3⟩; have hG3 := hG2.step hp h4 g3)
          | (go_at_call 35; refine (nb_left h4).mono ?_; rintro e w3' ⟨rfl, rfl⟩)
          | (go_at_call 33; refine (nb_pick h4).mono ?_; rintro e w4 ⟨rfl, h5, g4⟩; have hG4 := hG3.step hp h5 g4)
          | (go_at_call 29; refine (HT.out _ _ h5).mono ?_; rintro e w5 ⟨s5, rfl, hs5, h6, g5⟩; have hG5 := hG4.step hp h6 g5)
          | (go_at_call 31; refine (HM.out _ _ h6).mono ?_; rintro e w6 ⟨A6, c6, rfl, h7, g6⟩; have hG6 := hG5.step hp h7 g6))
        go_roundw
        case rel => exact ⟨i + 1, by omega, by go_num, hG6⟩
        case measure => simp [intOf]; omega
      · obtain rfl : i = 2 := by omega
        go_wp2_with (go_at_call 21; refine (dlives _).mono ?_; rintro e w3 ⟨rfl, hb3⟩)
        go_ret
        exact ⟨rfl, hG.2.2.trans (hb3.mono hG.2.2.size)⟩

namespace drawNobody
open Go.ChangeShapes Go.WideShapes Go.ChangeAt
set_option maxRecDepth 100000 in
theorem lifted (os : Os) (started : os.Started) (H : Type) (enc : TypeId × Value → H) :
    ReturnsInHanded {} Try.checked os 9 .any (Rows.drawNobodySpec.pre6 enc Try.prog Try.f9 Rows.drawNobodyRow.domain false) (Rows.drawNobodySpec.post enc Try.prog Try.f9 false true false false) := by
  refine returnsInHanded_of_change (C := Try.checked) own started (by kernel_rfl) Try.func9
    (ChangeSpec.witness6 (enc := enc) (C := Try.checked) false ⟨#[], #[.int .i64 0], []⟩ 8 (by kernel_rfl) (by kernel_rfl) (by kernel_rfl) (by kernel_rfl)) ?_
  intro W base args ds gs before hval0 hW _ _
  have hval : ∀ (j : Nat) t v, Try.f9.params[j]? = some t → args[j]? = some v → Value.okWide Try.prog W .any base t v := hval0
  have hW' := hW
  obtain ⟨p, q, hA0, hV, rfl, hfz, hnd⟩ := hW
  have hA : DataW.TrodAll enc Try.prog W 0 (fun _ => true) true Try.f9.params.toList args.toList ds p := hA0
  rw [Try.params9] at hA hval
  obtain ⟨v0, vs0, d0, ds0, p0, q0, hargs, rfl, rfl, h0, r0⟩ := trodAll_cons hA
  obtain ⟨rfl, rfl, rfl⟩ := trodAll_nil r0
  obtain rfl : args = #[v0] := by cases args; simp_all
  obtain ⟨rfl, rfl⟩ := trodVars_none hV
  have k0 := h0
  have lt0 : ∀ x ∈ p0, x.block < W.heap.size := by obtain ⟨m, hm⟩ := k0; exact DataW.trod_lt m _ _ _ hm
  obtain ⟨x0, rfl, w0⟩ := dec_int Try.underlying3 (hval 0 3 v0 rfl rfl) h0
  clear hA0 hval0
  refine (drawNobody_walk x0 w0).mono fun e W' ⟨he, bel⟩ => ?_
  subst he
  exact ⟨_, rfl, _, _, _, [], _, [], hW', trodAll_mk1 (shut_bool Try.underlying4 _), (trodAll_cons_mk (Below.trod laidOut (by kernel_rfl) (of_decide_eq_true (by kernel_rfl)) k0 bel lt0) trodAll_mk0), rfl, bel.frame _, fun h => by cases h⟩

theorem over : Rows.drawNobodyRow.holds Try.pinned (OpenSpec.ofChange Rows.drawNobodySpec) :=
  OpenClaim.holds_of_wide 9 Try.f9 rfl rfl rfl rfl rfl rfl rfl ⟨rfl, rfl, rfl, rfl, rfl⟩ rfl rfl rfl rfl rfl (by kernel_rfl) Try.func9 (by kernel_rfl)
    (of_decide_eq_true (by kernel_rfl)) (by unfold Func.isWrapper; first | (rw [if_pos (by decide +kernel)]; kernel_rfl) | (rw [if_neg (by decide +kernel)]; exact ⟨rfl, rfl⟩))
    (fun os started H enc _ => lifted os started H enc)
/-- The given statement. -/
theorem proved : Rows.DrawNobodySaid := over
end drawNobody

end Go.Proofs.Ytfiejdikgbeodaa

/- Contracts of the document's own draws. -/
import Derived.Test.YtfiejdikgbeodaaDcalls
namespace Go.Proofs.Ytfiejdikgbeodaa
open Go.RowKit

theorem bytesL_snoc (k : Nat) (l : List UInt8) : u8s (bytesL k l) ++ [Value.int .u8 ((hd (l.drop k) : Nat) : Int)] = u8s (bytesL (k + 1) l) := by
  have h : numOf 256 (l.drop k) = hd (l.drop k) := by
    unfold numOf
    rw [if_neg (by decide), wd_lo (by decide)]
    have := hd_lt (l.drop k)
    show (256 * 0 + hd (l.drop k)) % 256 = _
    omega
  rw [bytesL, bytesL, numsL_snoc, List.map_append, u8s_app, used256, Nat.mul_one, h]
  have := hd_lt (l.drop k)
  simp only [u8s, List.map_cons, List.map_nil, u8, UInt8.toNat_ofNat', Nat.reducePow]
  rw [Nat.mod_eq_of_lt this]
theorem textL_snoc (k : Nat) (l : List UInt8) : u8s (textL k l) ++ [Value.int .u8 (IntKind.u8.wrap (97 + ((numOf 26 (l.drop k) : Nat) : Int)))] = u8s (textL (k + 1) l) := by
  rw [textL, textL, numsL_snoc, List.map_append, u8s_app, used26, Nat.mul_one]
  simp only [u8s, List.map_cons, List.map_nil, u8, UInt8.toNat_ofNat', IntKind.wrap_u8]
  rfl

set_option maxRecDepth 8000 in
theorem rbytes_of {B : Nat} {w : World} {g : Nat} {l : List UInt8} (n : Int) (hS0 : Sr B 48 w (some ⟨g, 0, none⟩) l) :
    Calls Try.prog 28 #[.pointer (some ⟨g, 0, none⟩), .int .i64 n] w fun e w' => ∃ v, e = .returned v ∧ w'.ownsRow w.heap.size 5 1 v (cap n) (u8s (bytesL (cap n) l)) ∧ Sr B 48 w' (some ⟨g, 0, none⟩) (l.drop (cap n)) ∧ w.grownBy w' (some g) := by
  have hlt := hS0.lt g rfl
  obtain ⟨K, hK⟩ : ∃ K, K = cap n := ⟨_, rfl⟩
  rw [← hK]
  have HK := Lib.hid hK
  clear hK
  go_enter Try.func28, Try.ntmps28
  go_wp2
  go_loopw [5, 6] (fun vr ir wr => ∃ i : Nat, i ≤ K ∧ ir = .int .i64 (i : Int) ∧ wr.ownsRow w.heap.size 5 1 vr i (u8s (bytesL i l)) ∧ Sr B 48 wr (some ⟨g, 0, none⟩) (l.drop i) ∧ w.grownBy wr (some g)) (fun _ ir _ => K - (intOf ir).toNat)
  case atStart => exact ⟨0, Nat.zero_le _, rfl, World.ownsRow_nil _ _ _ _, by simpa using hS0, World.grownBy.refl _ _⟩
  case round =>
    obtain ⟨i, hi, rfl, hown, hS, hg⟩ := hrel
    have hz := hg.size
    by_cases hik : i < K
    · have h1 : (i : Int) < n := by have := HK.out; unfold cap at this; omega
      have h65 : i < 65536 := by have := HK.out; unfold cap at this; omega
      have h6 : decide ((i : Int) < 65536) = true := by simp only [decide_eq_true_eq]; omega
      have H65 := Lib.hid h65
      have h70 : i < 70000 := by omega
      clear h65
      have hkeep : ∀ w1, wr.grownBy w1 (some g) → w1.ownsRow w.heap.size _ 1 u5 i _ := fun w1 hg1 => hown.kept hg1 (by
        cases hk : Value.ownBlock u5 with
        | none => exact .inl rfl
        | some q => exact .inr (fun e => by have := (hown.lt q hk).1; have := Option.some.inj e; omega))
      go_wp2_with (first
        | (go_at_call 24; refine (rbyte_of hS).mono ?_; rintro e w1 ⟨rfl, hS1, hg1⟩)
        | (at_builtin; refine wpL_app rfl _ _ _ _ rfl E8 rfl rfl ((hkeep _ hg1).alloc _) (Src.lit Try.underlying23 _ rfl (by intro u hu; simp at hu; subst hu; rfl)) (by have := H65.out; unfold maxLen; omega) (by have := H65.out; omega) (by have := hg1.size; simp; omega) ?_; intro v2 w2 hown2 hg2 hat2))
      have hb2 : ∀ q, Value.ownBlock u5 = some q → w.heap.size ≤ q := fun q hq => (hown.lt q hq).1
      go_roundw
      case rel =>
        refine ⟨i + 1, by omega, by go_num, ?_, ?_, ?_⟩
        · rw [← bytesL_snoc]; exact hown2
        · refine (Sr.below ?_ ((Below.refl _ _).alloc (Nat.le_refl _) _)).far hg2 (fun r hr B hB => by have := hb2 r hr; obtain rfl : g = B := Option.some.inj hB; omega)
          rw [tail_drop] at hS1; exact hS1
        · exact grownBy_trans (grownBy_trans (hg.trans hg1) (World.grownBy_alloc w1 _ none) (.inr fun _ e => by cases e)) hg2 (.inr fun q e => hb2 q e)
      case measure => simp [intOf]; omega
    · have hiK : i = K := by omega
      subst hiK
      by_cases h1 : (i : Int) < n
      · have h6 : decide ((i : Int) < 65536) = false := by have := HK.out; unfold cap at this; simp; omega
        go_wp2
        go_ret
        exact ⟨_, rfl, hown, hS, hg⟩
      · have h7 : decide ((i : Int) < n) = false := by simpa using h1
        go_wp2
        go_ret
        exact ⟨_, rfl, hown, hS, hg⟩

set_option maxRecDepth 8000 in
theorem rnums_of {B : Nat} {w : World} {g : Nat} {l : List UInt8} (n : Int) (N : Int) (hN : (Lit.int .i64 N).wf = true) (hS0 : Sr B 48 w (some ⟨g, 0, none⟩) l) :
    Calls Try.prog 32 #[.pointer (some ⟨g, 0, none⟩), .int .i64 n, .int .i64 N] w fun e w' => ∃ v, e = .returned v ∧ w'.ownsRow w.heap.size 3 1 v (cap n) (ints (numsL N (cap n) l)) ∧ Sr B 48 w' (some ⟨g, 0, none⟩) (l.drop (cap n * numUsed N)) ∧ w.grownBy w' (some g) := by
  have hlt := hS0.lt g rfl
  obtain ⟨K, hK⟩ : ∃ K, K = cap n := ⟨_, rfl⟩
  rw [← hK]
  have HK := Lib.hid hK
  clear hK
  go_enter Try.func32, Try.ntmps32
  go_wp2
  go_loopw [7, 8] (fun vr ir wr => ∃ i : Nat, i ≤ K ∧ ir = .int .i64 (i : Int) ∧ wr.ownsRow w.heap.size 3 1 vr i (ints (numsL N i l)) ∧ Sr B 48 wr (some ⟨g, 0, none⟩) (l.drop (i * numUsed N)) ∧ w.grownBy wr (some g)) (fun _ ir _ => K - (intOf ir).toNat)
  case atStart => exact ⟨0, Nat.zero_le _, rfl, World.ownsRow_nil _ _ _ _, by simpa using hS0, World.grownBy.refl _ _⟩
  case round =>
    obtain ⟨i, hi, rfl, hown, hS, hg⟩ := hrel
    have hz := hg.size
    by_cases hik : i < K
    · have h1 : (i : Int) < n := by have := HK.out; unfold cap at this; omega
      have h65 : i < 65536 := by have := HK.out; unfold cap at this; omega
      have h6 : decide ((i : Int) < 65536) = true := by simp only [decide_eq_true_eq]; omega
      have H65 := Lib.hid h65
      have h70 : i < 70000 := by omega
      clear h65
      have hkeep : ∀ w1, wr.grownBy w1 (some g) → w1.ownsRow w.heap.size _ 1 u7 i _ := fun w1 hg1 => hown.kept hg1 (by
        cases hk : Value.ownBlock u7 with
        | none => exact .inl rfl
        | some q => exact .inr (fun e => by have := (hown.lt q hk).1; have := Option.some.inj e; omega))
      go_wp2_with (first
        | (go_at_call 26; refine (rnum_of N hN hS).mono ?_; rintro e w1 ⟨rfl, hS1, hg1⟩)
        | (at_builtin; refine wpL_app rfl _ _ _ _ rfl Ei rfl rfl ((hkeep _ hg1).alloc _) (Src.lit Try.underlying41 _ rfl (by intro u hu; simp at hu; subst hu; rfl)) (by have := H65.out; unfold maxLen; omega) (by have := H65.out; omega) (by have := hg1.size; simp; omega) ?_; intro v2 w2 hown2 hg2 hat2))
      have hb2 : ∀ q, Value.ownBlock u7 = some q → w.heap.size ≤ q := fun q hq => (hown.lt q hq).1
      go_roundw
      case rel =>
        refine ⟨i + 1, by omega, by go_num, ?_, ?_, ?_⟩
        · rw [ints, numsL_snoc, List.map_append]; exact hown2
        · refine (Sr.below ?_ ((Below.refl _ _).alloc (Nat.le_refl _) _)).far hg2 (fun r hr B hB => by have := hb2 r hr; obtain rfl : g = B := Option.some.inj hB; omega)
          rw [List.drop_drop, ← Nat.succ_mul] at hS1; exact hS1
        · exact grownBy_trans (grownBy_trans (hg.trans hg1) (World.grownBy_alloc w1 _ none) (.inr fun _ e => by cases e)) hg2 (.inr fun q e => hb2 q e)
      case measure => simp [intOf]; omega
    · have hiK : i = K := by omega
      subst hiK
      by_cases h1 : (i : Int) < n
      · have h6 : decide ((i : Int) < 65536) = false := by have := HK.out; unfold cap at this; simp; omega
        go_wp2
        go_ret
        exact ⟨_, rfl, hown, hS, hg⟩
      · have h7 : decide ((i : Int) < n) = false := by simpa using h1
        go_wp2
        go_ret
        exact ⟨_, rfl, hown, hS, hg⟩

set_option maxRecDepth 8000 in
theorem rtext_of {B : Nat} {w : World} {g : Nat} {l : List UInt8} (n : Int) (hS0 : Sr B 48 w (some ⟨g, 0, none⟩) l) :
    Calls Try.prog 30 #[.pointer (some ⟨g, 0, none⟩), .int .i64 n] w fun e w' => e = .returned (.string (str (textL (cap n) l))) ∧ Sr B 48 w' (some ⟨g, 0, none⟩) (l.drop (cap n)) ∧ w.grownBy w' (some g) := by
  have hlt := hS0.lt g rfl
  obtain ⟨K, hK⟩ : ∃ K, K = cap n := ⟨_, rfl⟩
  rw [← hK]
  have HK := Lib.hid hK
  clear hK
  go_enter Try.func30, Try.ntmps30
  go_wp2
  go_loopw [5, 6] (fun vr ir wr => ∃ i : Nat, i ≤ K ∧ ir = .int .i64 (i : Int) ∧ wr.ownsRow w.heap.size 5 1 vr i (u8s (textL i l)) ∧ Sr B 48 wr (some ⟨g, 0, none⟩) (l.drop i) ∧ w.grownBy wr (some g)) (fun _ ir _ => K - (intOf ir).toNat)
  case atStart => exact ⟨0, Nat.zero_le _, rfl, World.ownsRow_nil _ _ _ _, by simpa using hS0, World.grownBy.refl _ _⟩
  case round =>
    obtain ⟨i, hi, rfl, hown, hS, hg⟩ := hrel
    have hz := hg.size
    by_cases hik : i < K
    · have h1 : (i : Int) < n := by have := HK.out; unfold cap at this; omega
      have h65 : i < 65536 := by have := HK.out; unfold cap at this; omega
      have h6 : decide ((i : Int) < 65536) = true := by simp only [decide_eq_true_eq]; omega
      have H65 := Lib.hid h65
      have hb0 : (0 : Int) ≤ ((numOf 26 (l.drop i) : Nat) : Int) := by omega
      have hb26 : ((numOf 26 (l.drop i) : Nat) : Int) < 26 := numOf_lt 26 _ (by decide)
      have h70 : i < 70000 := by omega
      clear h65
      have hkeep : ∀ w1, wr.grownBy w1 (some g) → w1.ownsRow w.heap.size _ 1 u5 i _ := fun w1 hg1 => hown.kept hg1 (by
        cases hk : Value.ownBlock u5 with
        | none => exact .inl rfl
        | some q => exact .inr (fun e => by have := (hown.lt q hk).1; have := Option.some.inj e; omega))
      go_wp2_with (first
        | (go_at_call 26; refine (rnum_of 26 (by decide) hS).mono ?_; rintro e w1 ⟨rfl, hS1, hg1⟩)
        | (at_builtin; refine wpL_app rfl _ _ _ _ rfl E8 rfl rfl ((hkeep _ hg1).alloc _) (Src.lit Try.underlying23 _ rfl (by intro u hu; simp at hu; subst hu; rfl)) (by have := H65.out; unfold maxLen; omega) (by have := H65.out; omega) (by have := hg1.size; simp; omega) ?_; intro v2 w2 hown2 hg2 hat2))
      have hb2 : ∀ q, Value.ownBlock u5 = some q → w.heap.size ≤ q := fun q hq => (hown.lt q hq).1
      go_roundw
      case rel =>
        refine ⟨i + 1, by omega, by go_num, ?_, ?_, ?_⟩
        · rw [← textL_snoc, show IntKind.u8.wrap (97 + ((numOf 26 (l.drop i) : Nat) : Int)) = 97 + ((numOf 26 (l.drop i) : Nat) : Int) from by rw [IntKind.wrap_u8]; omega]; exact hown2
        · refine (Sr.below ?_ ((Below.refl _ _).alloc (Nat.le_refl _) _)).far hg2 (fun r hr B hB => by have := hb2 r hr; obtain rfl : g = B := Option.some.inj hB; omega)
          rw [List.drop_drop, used26] at hS1; exact hS1
        · exact grownBy_trans (grownBy_trans (hg.trans hg1) (World.grownBy_alloc w1 _ none) (.inr fun _ e => by cases e)) hg2 (.inr fun q e => hb2 q e)
      case measure => simp [intOf]; omega
    · have hiK : i = K := by omega
      subst hiK
      by_cases h1 : (i : Int) < n
      · have h6 : decide ((i : Int) < 65536) = false := by have := HK.out; unfold cap at this; simp; omega
        obtain ⟨A, c, rfl⟩ := ownsRow_form hown
        have hrd := ownsRow_rd hown
        go_wp2_with (refine wpL_str (o := ⟨some 24, _, _, _, _, _⟩) (A := A) (n := i) (c := c) rfl (.tmp 23) 23 9 rfl Try.underlying23 Try.underlying5 Try.underlying9 rfl hrd ?_)
        go_ret
        exact ⟨rfl, hS, hg⟩
      · have h7 : decide ((i : Int) < n) = false := by simpa using h1
        obtain ⟨A, c, rfl⟩ := ownsRow_form hown
        have hrd := ownsRow_rd hown
        go_wp2_with (refine wpL_str (o := ⟨some 24, _, _, _, _, _⟩) (A := A) (n := i) (c := c) rfl (.tmp 23) 23 9 rfl Try.underlying23 Try.underlying5 Try.underlying9 rfl hrd ?_)
        go_ret
        exact ⟨rfl, hS, hg⟩


end Go.Proofs.Ytfiejdikgbeodaa

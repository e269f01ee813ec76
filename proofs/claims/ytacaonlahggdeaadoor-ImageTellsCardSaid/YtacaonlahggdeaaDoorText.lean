/- Contracts of octet's Reader: texts, bytes; Read; Text. -/
import Derived.Test.YtacaonlahggdeaaDoorNum
namespace Go.Proofs.YtacaonlahggdeaaDoor
open Go.RowKit
set_option maxRecDepth 20000

theorem unle_le (k N : Nat) : unle (le k N) = N % 256 ^ k := by
  induction k generalizing N with
  | zero => simp [le, unle, Nat.mod_one]
  | succ k ih =>
    rw [le, unle, ih, Nat.pow_succ, Nat.mul_comm (256 ^ k) 256, Nat.mod_mul]
    simp
theorem le_unle (l : List UInt8) : le l.length (unle l) = l := by
  induction l with
  | nil => rfl
  | cons b l ih =>
    have hb := b.toNat_lt
    have e1 : (b.toNat + 256 * unle l) % 256 = b.toNat := by omega
    have e2 : (b.toNat + 256 * unle l) / 256 = unle l := by omega
    rw [unle, List.length_cons, le, e1, e2, ih]
    simp

def St.text (s : St) : List UInt8 × St := if 16384 < (s.num 2).1 then ([], ⟨[], true⟩) else (s.num 2).2.next (s.num 2).1

theorem text_any (g : Nat) (s : St) (w : World) (h : Rdr w g s) :
    Calls Tryd.prog 35 #[.pointer (some ⟨g, 0, none⟩)] w fun e w' => e = .returned (.string (str s.text.1)) ∧ Rdr w' g s.text.2 ∧ w.grownBy w' (some g) := by
  have hn := num_all g s 2 w h
  by_cases hb : 16384 < (s.num 2).1
  · have hfin : s.text = ([], ⟨[], true⟩) := by unfold St.text; rw [if_pos hb]
    generalize s.num 2 = r at *
    obtain ⟨m, s'⟩ := r
    have H := Lib.hid hfin
    have HN := Lib.hid hn
    clear hfin hn
    dsimp only at hb
    have hbi : decide ((16384 : Int) < (m : Int)) = true := by simp; omega
    go_enter Tryd.func35, Tryd.ntmps35
    go_wp2_with (first
      | (go_at_call 34; refine (HN.out).mono ?_; rintro e w1 ⟨rfl, hR, hB⟩)
      | (go_at_call 54; refine (fail_any _ _ _ hR).mono ?_; rintro e w2 ⟨rfl, hR2, hB2⟩))
    go_ret
    exact ⟨by rw [H.out]; rfl, by rw [H.out]; exact hR2, grownBy_trans hB hB2 (.inl rfl)⟩
  · have hfin : s.text = (s.num 2).2.next (s.num 2).1 := by unfold St.text; rw [if_neg hb]
    generalize s.num 2 = r at *
    obtain ⟨m, s'⟩ := r
    have H := Lib.hid hfin
    have HN := Lib.hid hn
    clear hfin hn
    dsimp only at hb
    have hbi : decide ((16384 : Int) < (m : Int)) = false := by simp; omega
    go_enter Tryd.func35, Tryd.ntmps35
    go_wp2_with (first
      | (go_at_call 34; refine (HN.out).mono ?_; rintro e w1 ⟨rfl, hR, hB⟩)
      | (go_at_call 55; refine (next_any _ _ _ _ hR).mono ?_; rintro e w2 ⟨rfl, hR2, hB2⟩))
    go_ret
    exact ⟨by rw [H.out]; rfl, by rw [H.out]; exact hR2, grownBy_trans hB hB2 (.inl rfl)⟩
theorem text_nil (w : World) : Calls Tryd.prog 35 #[.pointer none] w fun e w' => e = .returned (.string (str [])) ∧ w = w' := by
  go_enter Tryd.func35, Tryd.ntmps35
  go_wp2_with (first
    | (go_at_call 34; refine (num_nil _ _).mono ?_; rintro e w1 ⟨rfl, rfl⟩)
    | (go_at_call 55; refine (next_nil _ _).mono ?_; rintro e w2 ⟨rfl, rfl⟩))
  go_ret
  exact ⟨rfl, rfl⟩

theorem byteCells_str (l : List UInt8) : byteCells (str l) = u8s l := rfl

theorem take_any (g : Nat) (s : St) (n : Int) (w : World) (h : Rdr w g s) :
    Calls Tryd.prog 53 #[.pointer (some ⟨g, 0, none⟩), .int .i64 n] w fun e w' => ∃ v, e = .returned v ∧ w'.ownsRow w.heap.size 5 1 v (s.next n).1.length (u8s (s.next n).1) ∧ Rdr w' g (s.next n).2 ∧ w.grownBy w' (some g) := by
  have hn := next_any g s n w h
  have hb : (s.next n).1.length ≤ 1000000 := by
    have := h.2
    unfold St.next
    split
    · simp only [List.length_take]; omega
    · simp
  have hg : g < w.heap.size := (Array.getElem?_eq_some_iff.1 h.1).1
  generalize s.next n = r at *
  obtain ⟨t, s'⟩ := r
  dsimp only at hn hb
  have HN := Lib.hid hn
  clear hn
  have hs : (str t).size = t.length := rfl
  go_enter Tryd.func53, Tryd.ntmps53
  go_wp2_with (first
    | (go_at_call 55; refine (HN.out).mono ?_; rintro e w1 ⟨rfl, hR, hB⟩; have hz1 := hB.size)
    | (at_make; refine wpL_make rfl _ _ _ rfl (base := w.heap.size) E_u8 t.length rfl rfl (by omega) (by omega) (by omega) (by unfold maxLen; omega) (by omega) ?_; intro w2 hown2 hg2)
    | (refine wpL_cp (o := ⟨some 15, _, _, _, _, _⟩) (y := .string (str t)) rfl (.tmp 13) (.tmp 14) 62 9 rfl E_u8 rfl rfl hown2 (Src.ofString _ Tryd.underlying9 (str t)) (Nat.le_refl _) ?_; intro w3 hown3 hg3))
  go_ret
  refine ⟨_, rfl, ?_, ?_, ?_⟩
  · rw [byteCells_str, List.drop_of_length_le (by rw [Array.length_toList, size_madeCells, str_size]; exact Nat.le_refl _), List.append_nil] at hown3
    exact hown3
  · exact (hR.kept hg2 (by simp)).kept hg3 (by simp [Value.ownBlock]; omega)
  · exact grownBy_trans (grownBy_trans hB hg2 (.inr fun _ e => by cases e)) hg3 (.inr fun k e => by simp [Value.ownBlock] at e; omega)
theorem take_nil (n : Int) (w : World) : Calls Tryd.prog 53 #[.pointer none, .int .i64 n] w fun e w' => ∃ v, e = .returned v ∧ w'.ownsRow w.heap.size 5 1 v 0 [] ∧ Below w.heap.size w w' := by
  have hs : (str []).size = 0 := rfl
  go_enter Tryd.func53, Tryd.ntmps53
  go_wp2_with (first
    | (go_at_call 55; refine (next_nil _ _).mono ?_; rintro e w1 ⟨rfl, rfl⟩)
    | (at_make; refine wpL_make rfl _ _ _ rfl (base := w.heap.size) E_u8 0 rfl rfl (by omega) (by omega) (by omega) (by unfold maxLen; omega) (by omega) ?_; intro w2 hown2 hg2)
    | (refine wpL_cp (o := ⟨some 15, _, _, _, _, _⟩) (y := .string (str [])) rfl (.tmp 13) (.tmp 14) 62 9 rfl E_u8 rfl rfl hown2 (Src.ofString _ Tryd.underlying9 (str [])) (Nat.le_refl _) ?_; intro w3 hown3 hg3))
  go_ret
  refine ⟨_, rfl, ?_, ?_⟩
  · rw [byteCells_str, List.drop_of_length_le (by rw [Array.length_toList, size_madeCells, str_size]; exact Nat.le_refl _), List.append_nil] at hown3
    exact hown3
  · exact ((Below.refl _ _).grown hg2 (Nat.le_refl _) (fun k e => by cases e)).grown hg3 hg2.size (fun k e => by simp [Value.ownBlock] at e; omega)

theorem read_any (A : Option Addr) (n c : Nat) (l : List UInt8) (w : World) (h : Rd w w.heap.size 1 A n c (u8s l)) (hn : n ≤ 1000000) :
    Calls Tryd.prog 32 #[.slice A n c] w fun e w' => ∃ g, e = .returned (.pointer (some ⟨g, 0, none⟩)) ∧ w.heap.size ≤ g ∧ Rdr w' g ⟨l, false⟩ ∧ Below w.heap.size w w' := by
  have hln : l.length = n := by have := h.len; rwa [u8s_len] at this
  have HL := Lib.hid hln
  clear hln
  go_enter Tryd.func32, Tryd.ntmps32
  go_wp2_with (refine wpL_str (o := ⟨some 4, _, _, _, _, _⟩) (A := A) (n := n) (c := c) (l := l) rfl (.tmp 3) 62 9 rfl Tryd.underlying62 Tryd.underlying5 Tryd.underlying9 rfl h ?_)
  go_ret
  refine ⟨w.heap.size, rfl, Nat.le_refl _, ⟨heap_alloc_new w _, ?_⟩, (Below.refl _ _).alloc (Nat.le_refl _) _⟩
  rw [HL.out]; exact hn

theorem texts_long (A : Option Addr) (n c : Nat) (s : List UInt8) (w : World) (hs : 16384 < s.length) :
    Calls Tryd.prog 19 #[.slice A n c, .string (str s)] w fun e w' => e = .returned (.tuple #[.slice none 0 0, .int .i64 11]) ∧ w = w' := by
  have hz : (str s).size = s.length := rfl
  have hb : decide (16384 < s.length) = true := by simpa using hs
  go_enter Tryd.func19, Tryd.ntmps19
  go_wp2
  go_ret2
  exact ⟨rfl, rfl⟩
theorem texts_any (A : Option Addr) (n c : Nat) (l s : List UInt8) (w : World) (h : Rd w w.heap.size 1 A n c (u8s l)) (hn : n ≤ 500000) (hs : s.length ≤ 16384) :
    Calls Tryd.prog 19 #[.slice A n c, .string (str s)] w fun e w' => ∃ v, e = .returned (.tuple #[v, .int .i64 0]) ∧ w'.ownsRow w.heap.size 5 1 v (n + 2 + s.length) (u8s (l ++ le 2 s.length ++ s)) ∧ Below w.heap.size w w' := by
  have hz : (str s).size = s.length := rfl
  have hb : decide (16384 < s.length) = false := by simp; omega
  go_enter Tryd.func19, Tryd.ntmps19
  go_wp2_with (first
    | (go_at_call 44; refine (grown_any _ _ _ l _ _ h (by omega) (by omega)).mono ?_; rintro e w1 ⟨v1, rfl, hown1, hb1⟩; have hz1 := hb1.size)
    | (go_at_call 45; refine (number_any _ _ _ 2 _ _ _ hown1 hz1 (by omega) (by omega)).mono ?_; rintro e w2 ⟨v2, rfl, hown2, hext2⟩; have hz2 := hext2.1.size)
    | (at_builtin; refine wpL_app (y := .string (str s)) rfl _ _ _ _ rfl E_u8 rfl rfl hown2 (Src.ofString _ Tryd.underlying9 (str s)) (by unfold maxLen; omega) (by omega) (by omega) ?_; intro v3 w3 hown3 hg3 hat3))
  go_ret2
  refine ⟨_, rfl, ?_, ?_⟩
  · rw [byteCells_str] at hown3
    rw [u8s_app, u8s_app]
    exact hown3
  · exact (hb1.trans (hext2.below hown1 hz1 (Nat.le_refl _))).grown hg3 (by omega) (fun k e => (hown2.lt k e).1)

end Go.Proofs.YtacaonlahggdeaaDoor

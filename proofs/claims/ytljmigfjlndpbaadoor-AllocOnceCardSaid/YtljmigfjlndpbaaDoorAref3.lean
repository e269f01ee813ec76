/- The reference's New, Some; the same numbers. -/
import Derived.Test.YtljmigfjlndpbaaDoorAref2
namespace Go.Proofs.YtljmigfjlndpbaaDoor
open Go.RowKit

theorem bool_elem : Elem Tryd.prog 54 4 (.bool false) 1 1 := Elem.mk_ Tryd.underlying54 (by kernel_rfl) rfl (by decide)
theorem madeCells_bs (n : Nat) : (madeCells (Value.cells (.bool false)) (n * 1)).toList = bs (List.replicate n false) := by
  unfold bs
  rw [List.map_replicate]
  simp [madeCells, Value.cells, Nat.mod_one, List.map_const']
theorem tk_fresh {a : Av} {n : Nat} (h : Fresh a n) : tk a = List.replicate n false := by
  unfold tk
  rw [h.1]
  apply List.ext_getElem?
  intro i
  rw [List.getElem?_map, List.getElem?_replicate]
  by_cases hi : i < n
  · rw [List.getElem?_range hi, if_pos hi, Option.map_some, h.2 i]
    simp [hi]
  · rw [if_neg hi, List.getElem?_eq_none (by rw [List.length_range]; omega)]
    rfl
section
variable {w w' : World} {r b : Nat} {a : Av}
theorem rnew_none (n : Int) (w : World) (hn : n < 1 ∨ 65536 < n) : Calls Tryd.prog 8 #[.int .i64 n] w fun e w' => e = .returned (.tuple #[.pointer none, .bool false]) ∧ w = w' := by
  by_cases h1 : n < 1
  · have q1 : decide (n < 1) = true := by simpa using h1
    go_enter Tryd.func8, Tryd.ntmps8
    go_wp2
    go_ret2
    exact ⟨rfl, rfl⟩
  · have h2 : 65536 < n := by omega
    have q1 : decide (n < 1) = false := by simpa using h1
    have q2 : decide (65536 < n) = true := by simpa using h2
    go_enter Tryd.func8, Tryd.ntmps8
    go_wp2
    go_ret2
    exact ⟨rfl, rfl⟩
def RNewly (w : World) (a : Av) (e : Ending) (w' : World) : Prop := ∃ r b, e = .returned (.tuple #[.pointer (some ⟨r, 0, none⟩), .bool true]) ∧ Alr w' r b a ∧ Below w.heap.size w w' ∧ w.heap.size ≤ r ∧ w.heap.size ≤ b
theorem rnew_any (n : Nat) (w : World) (h1 : 1 ≤ n) (h2 : n ≤ 65536) (h0 : 0 < w.heap.size) (hF : Fresh a n) (hO : ∃ k, a.Ok k) :
    Calls Tryd.prog 8 #[.int .i64 (n : Int)] w (RNewly w a) := by
  have q1 : decide ((n : Int) < 1) = false := by simp; omega
  have q2 : decide (65536 < (n : Int)) = false := by simp; omega
  have q3 : decide (n < 1) = false := by simp; omega
  have q4 : decide (65536 < n) = false := by simp; omega
  have q5 : ¬ n < 1 := by omega
  have q6 : ¬ 65536 < n := by omega
  have HN := Lib.hid h2
  have H0 := Lib.hid h0
  have HF := Lib.hid hF
  clear h1 h2 h0 hF
  unfold RNewly
  go_enter Tryd.func8, Tryd.ntmps8
  go_wp2_with (first
    | (at_make; go_loud (refine wpL_make rfl (.tmp 10) (.tmp 10) _ rfl bool_elem (base := w.heap.size) n rfl rfl rfl rfl (by have := HN.out; omega) (by unfold maxLen; have := HN.out; omega) (Nat.le_refl _) ?_); intro w1 hown1 hg1)
    | fail)
  go_ret2
  rw [madeCells_bs] at hown1
  obtain ⟨hrow1, _⟩ := ownsRow_row hown1
  have hb1 : Below w.heap.size w w1 := below_of_grown hg1 (fun q e => by cases e)
  have hlt1 := (Array.getElem?_eq_some_iff.1 hrow1).1
  obtain ⟨W, hW, _, hr0, hbW⟩ := boxes1 w1 #[.slice (some ⟨w.heap.size, 0, none⟩) n n] 56
  rw [← hW]
  have hs := hb1.size
  have h0 := H0.out
  refine ⟨w1.heap.size, w.heap.size, rfl, ⟨?_, ?_, by omega, hO, by omega⟩, hb1.trans (hbW.mono hb1.size), hs, Nat.le_refl _⟩
  · rw [HF.out.1]; exact hr0
  · rw [tk_fresh HF.out]; exact (hbW.block _ hlt1).trans hrow1

theorem ownsRow_block {base n sz : Nat} {e : TypeId} {v : Value} {xs : List Value} (h : w.ownsRow base e sz v n xs) : ∀ q, v.ownBlock = some q → base ≤ q := fun q hq => (h.lt q hq).1
theorem Alr.grown (h : Alr w r b a) {row : Option Nat} (hg : w.grownBy w' row) (hr : ∀ q, row = some q → q ≠ r ∧ q ≠ b) : Alr w' r b a :=
  ⟨row_far h.row hg (fun e => (hr r e.symm).1 rfl), row_far h.rows hg (fun e => (hr b e.symm).2 rfl), h.ne, h.ok, h.pos⟩
def RSomed (w : World) (r b : Nat) (a : Av) (c : Int) (e : Ending) (w' : World) : Prop := ∃ v, e = .returned (.tuple #[v, .int .i64 (a.someE c)]) ∧ w'.ownsRow w.heap.size 3 1 v (a.someN c) (is (Av.some (a.someN c) a).1) ∧ Alr w' r b (Av.some (a.someN c) a).2 ∧ w.grownBy w' (some b)
set_option maxHeartbeats 1000000 in
theorem rsome_any (h : Alr w r b a) (c : Int) (hc1 : -9223372036854775808 ≤ c) (hc2 : c ≤ 9223372036854775807) :
    Calls Tryd.prog 12 #[.pointer (some ⟨r, 0, none⟩), .int .i64 c] w (RSomed w r b a c) := by
  have HF := Lib.hid (rfree_any h)
  have HH := Lib.hid h
  unfold RSomed Av.someE Av.someN
  have hfr : a.free ≤ 102400 := by
    obtain ⟨k, hk⟩ := h.ok
    have h1 := popAll_le a.ws
    have h2 := hk.len
    have h3 := hk.small
    unfold Av.free
    omega
  by_cases hneg : c < 0
  · simp only [if_pos hneg]
    have q1 : decide (c < 0) = true := by simpa using hneg
    clear h hfr
    go_enter Tryd.func12, Tryd.ntmps12
    go_wp2_with (fail)
    go_ret2
    exact ⟨_, rfl, World.ownsRow_nil _ _ _ _, HH.out, grown_refl _ _⟩
  · simp only [if_neg hneg]
    have q1 : decide (c < 0) = false := by simpa using hneg
    by_cases hm : (a.free : Int) < c
    · simp only [if_pos hm]
      have q2 : decide ((a.free : Int) < c) = true := by simpa using hm
      clear h
      generalize a.free = F at *
      go_enter Tryd.func12, Tryd.ntmps12
      go_wp2_with (first
        | (go_at_call 20; refine HF.out.mono ?_; rintro e w1 ⟨rfl, rfl⟩)
        | fail)
      go_ret2
      exact ⟨_, rfl, World.ownsRow_nil _ _ _ _, HH.out, grown_refl _ _⟩
    · simp only [if_neg hm]
      have q2 : decide ((a.free : Int) < c) = false := by simpa using hm
      obtain ⟨n, rfl⟩ : ∃ n : Nat, c = (n : Int) := ⟨c.toNat, by omega⟩
      have hn : n ≤ 102400 := by omega
      have q3 : decide (a.free < n) = false := by simp; omega
      have q4 : ¬ a.free < n := by omega
      rw [Int.toNat_natCast]
      have HLT := Lib.hid h.lt
      have HN := Lib.hid hn
      clear h hfr hneg hm hc1 hc2 hn
      generalize a.free = F at *
      go_enter Tryd.func12, Tryd.ntmps12
      go_wp2_with (first
        | (go_at_call 20; refine HF.out.mono ?_; rintro e w1 ⟨rfl, rfl⟩)
        | fail)
      clear HF
      go_loopw [6] (fun vr wr => ∃ i : Nat, i ≤ n ∧ Hid (wr.ownsRow w.heap.size 3 1 vr i (is (Av.some i a).1)) ∧ Hid (Alr wr r b (Av.some i a).2) ∧ Hid (w.grownBy wr (some b)) ∧ Hid (∃ A cc, vr = .slice A i cc)) (fun vr _ => n - (match vr with | .slice _ l _ => l | _ => 0))
      case atStart => exact ⟨0, Nat.zero_le _, Lib.hid (World.ownsRow_nil _ _ _ _), HH, Lib.hid (grown_refl _ _), Lib.hid ⟨_, _, rfl⟩⟩
      case round =>
        obtain ⟨i, hi, RO, RA, RG, RV⟩ := hrel
        obtain ⟨A, cc, rfl⟩ := RV.out
        have hin3 : (i : Int) ≤ 110000 := by have := HN.out; omega
        by_cases hlt : i < n
        · have HTK := Lib.hid (rtake_any RA.out)
          go_wp2_with (first
            | (go_at_call 10; go_loud (refine HTK.out.mono ?_); rintro e w3 ⟨rfl, hA3, hg3⟩;
               have HO3 := Lib.hid (RO.out.kept hg3 (.inr (fun e => by have := ownsRow_block RO.out b e; have := HLT.out; omega)));
               have HA3 := Lib.hid hA3; have HG3 := Lib.hid hg3; clear hA3 hg3)
            | (at_builtin; go_loud (refine wpL_app (o := ⟨some 27, _, _, _, _, _⟩) (v := .slice A i cc) (y := .slice (some ⟨w3.heap.size, 0, none⟩) 1 1) rfl (.tmp 24) (.tmp 26) _ _ rfl int_elem rfl rfl (HO3.out.alloc _) (Src.lit Tryd.underlying36 #[.int .i64 (Av.some i a).2.take.1.1] rfl (by simp [Value.oneCell'])) (by unfold maxLen; have := HN.out; omega) (by have := HN.out; omega) (by have h1 := RG.out.size; have h2 := HG3.out.size; simp; omega) ?_); intro v4 w4 hown4 hg4 hat4;
               have HO4 := Lib.hid hown4; have HG4 := Lib.hid hg4; clear hown4 hg4 hat4)
            | fail)
          go_roundw
          case rel =>
            have hbk := ownsRow_block HO3.out
            have hl := HLT.out
            have hAl : Alr (w3.alloc (.cells #[.int .i64 (Av.some i a).2.take.1.1] 3)) r b (Av.some i a).2.take.2 := HA3.out.below ((Below.refl _ _).alloc (Nat.le_refl _) _)
            have hgl : w.grownBy (w3.alloc (.cells #[.int .i64 (Av.some i a).2.take.1.1] 3)) (some b) := grownBy_trans (grownBy_trans RG.out HG3.out (.inl rfl)) (World.grownBy_alloc w3 _ none) (.inr fun q e => by cases e)
            refine ⟨i + 1, by omega, Lib.hid ?_, Lib.hid (hAl.grown HG4.out (fun q e => by have := hbk q e; omega)), Lib.hid (grownBy_trans hgl HG4.out (.inr hbk)), Lib.hid (ownsRow_form HO4.out)⟩
            have := HO4.out
            unfold is at this ⊢
            rw [Av.some, List.map_append]
            exact this
          case measure =>
            obtain ⟨A4, c4, rfl⟩ := ownsRow_form HO4.out
            simp
            omega
        · obtain rfl : i = n := by omega
          go_wp2
          go_ret2
          exact ⟨_, rfl, RO.out, RA.out, RG.out⟩
end
end Go.Proofs.YtljmigfjlndpbaaDoor

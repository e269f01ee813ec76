/- A vow: what was saved last, what is saved, and what is opened. -/
import Derived.Test.YteakdmabdfpiiaaVow
namespace Go.Proofs.Yteakdmabdfpiiaa
set_option maxRecDepth 20000
open Go.RowKit

theorem vtext_num (p : Vv) (ht : p.term < 18446744073709551616) : St.num ⟨p.text, false⟩ 8 = (p.term, ⟨le 1 p.vote, false⟩) := by
  have hl : (le 8 p.term).length = 8 := le_len _ _
  have hl1 : (le 1 p.vote).length = 1 := le_len _ _
  unfold St.num St.next Vv.text
  rw [if_pos (by decide), if_pos (by rw [List.length_append, hl, hl1]; decide)]
  show (unle ((le 8 p.term ++ le 1 p.vote).take 8), _) = _
  rw [List.take_append_of_le_length (by omega), List.take_of_length_le (by omega), unle_le, Nat.mod_eq_of_lt (by omega)]
  show (p.term, St.mk ((le 8 p.term ++ le 1 p.vote).drop 8) false) = _
  rw [List.drop_append, List.drop_of_length_le (by omega), List.nil_append, hl]
  rfl
theorem vvote_num (v : Nat) (hv : v < 256) : St.num ⟨le 1 v, false⟩ 1 = (v, ⟨[], false⟩) := by
  have hl1 : (le 1 v).length = 1 := le_len _ _
  unfold St.num St.next
  rw [if_pos (by decide), if_pos (by rw [hl1]; decide)]
  show (unle ((le 1 v).take 1), St.mk ((le 1 v).drop 1) false) = _
  rw [List.take_of_length_le (by omega), List.drop_of_length_le (by omega), unle_le, Nat.mod_eq_of_lt (by omega)]
/-- Nothing was saved. -/
theorem vlast_none {w : World} {T : Nat} {g : Option Addr} {t : Tv} (h : Tw w T g t) (hn : t.number = 0) : Calls Try.prog 56 #[.pointer (some ⟨T, 0, none⟩)] w fun e w' => e = .returned (.tuple #[.agg #[.int .u64 0, .int .u64 0], .int .i64 0]) ∧ Below w.heap.size w w' := by
  obtain ⟨W, hW⟩ : ∃ W, W = w.alloc (.cells #[.int .u64 0, .int .u64 0] 85) := ⟨_, rfl⟩
  have hb : Below w.heap.size w W := by rw [hW]; exact (Below.refl _ _).alloc (Nat.le_refl _) _
  have HL := Lib.hid (twlast_none (h.below hb) hn)
  have HW := Lib.hid hW
  clear h hb hn hW
  go_enter Try.func56, Try.ntmps56
  go_wp2_with (first
    | (go_at_call 22; rw [← HW.out]; refine HL.out.mono ?_; rintro e w1 ⟨rfl, rfl⟩; rw [HW.out])
    | fail)
  exact bodyPost_ret (v := .tuple #[.agg #[.int .u64 0, .int .u64 0], .int .i64 0]) (by simp [results, Try.results56, go_sem]) rfl ⟨rfl, (Below.refl _ _).alloc (Nat.le_refl _) _⟩
/-- A promise was saved. -/
theorem vlast_some {w : World} {T : Nat} {g : Option Addr} {t : Tv} (h : Tw w T g t) (hn : 0 < t.number) (p : Vv) (ht : t.text = p.text) (hp : p.term < 18446744073709551616) (hv : p.vote ≤ 7) : Calls Try.prog 56 #[.pointer (some ⟨T, 0, none⟩)] w fun e w' => e = .returned (.tuple #[.agg #[.int .u64 (p.term : Int), .int .u64 (p.vote : Int)], .int .i64 0]) ∧ Below w.heap.size w w' := by
  obtain ⟨W, hW⟩ : ∃ W, W = w.alloc (.cells #[.int .u64 0, .int .u64 0] 85) := ⟨_, rfl⟩
  have hb : Below w.heap.size w W := by rw [hW]; exact (Below.refl _ _).alloc (Nat.le_refl _) _
  have hlt : w.heap.size < W.heap.size := by rw [hW]; simp
  have hlen : p.text.length = 9 := by unfold Vv.text; rw [List.length_append, le_len, le_len]
  have hL := twlast_far (h.below hb) hn (by rw [ht, hlen]; decide)
  rw [ht, hlen] at hL
  have HL := Lib.hid hL
  have rW : W.heap[w.heap.size]? = some (.cells #[.int .u64 0, .int .u64 0] 85 (0, 0)) := by rw [hW]; exact row_here _ _ rfl
  have HN1 := Lib.hid (vtext_num p hp)
  have HN2 := Lib.hid (vvote_num p.vote (by omega))
  have HW := Lib.hid hW
  have HB := Lib.hid hb
  have HLT := Lib.hid hlt
  have HR := Lib.hid rW
  have HLN := Lib.hid hlen
  have q1 : decide ((7 : Int) < (p.vote : Int)) = false := by simp; omega
  have q2 : ¬ (7 : Int) < (p.vote : Int) := by omega
  have q3 : (p.vote : Int) ≤ 7 := by omega
  obtain ⟨tm, vt⟩ := p
  dsimp only at *
  generalize (Vv.mk tm vt).text = l at *
  clear h hb hn hW hlt hL rW ht hp hv hlen
  go_enter Try.func56, Try.ntmps56
  go_wp2_with (first
    | (go_at_call 22; rw [← HW.out]; refine HL.out.mono ?_; rintro e w1 ⟨A1, c1, rfl, hr1, hf1, hb1⟩)
    | (go_at_call 81; refine (read_any A1 9 c1 l _ hr1 (by omega)).mono ?_; rintro e w2 ⟨g2, rfl, hg2, hd2, hb2⟩
       have HB2 := Lib.hid (HB.out.trans ((hb1.trans (hb2.mono hb1.size)).mono HB.out.size))
       have HG2 := Lib.hid (show W.heap.size ≤ g2 from Nat.le_trans hb1.size hg2)
       have hx : w2.heap[w.heap.size]? = _ := ((hb1.trans (hb2.mono hb1.size)).block _ HLT.out).trans HR.out
       have HX2 := Lib.hid hx
       have HD2 := Lib.hid hd2
       clear hr1 hf1 hb1 hg2 hd2 hb2 hx)
    | (go_at_call 82; have hz := HD3.out; clear hz
       have hn4 := num_all g2 _ 1 _ HD3.out
       rw [HN2.out] at hn4
       refine hn4.mono ?_; rintro e w4 ⟨rfl, hd4, hg4⟩
       have HB4 := Lib.hid (HB3.out.grown hg4 HB3.out.size (fun k e => by cases e; have := HG2.out; have := HLT.out; omega))
       have hx : w4.heap[w.heap.size]? = _ := (hg4.block _ (Array.getElem?_eq_some_iff.1 HX3.out).1 (fun e => by have := Option.some.inj e; have := HG2.out; have := HLT.out; omega)).trans HX3.out
       have e0 := cell_of_row w4 _ 0 _ _ _ hx
       have e1 := cell_of_row w4 _ 1 _ _ _ hx
       have f0 := frozen_of_row w4 _ 0 _ _ hx
       have f1 := frozen_of_row w4 _ 1 _ _ hx
       have s4 := (Array.getElem?_eq_some_iff.1 hx).1
       simp at e0 e1
       have HD4 := Lib.hid hd4
       clear hn4 hd4 hg4 hx)
    | (go_at_call 82
       have hn3 := num_all g2 _ 8 _ HD2.out
       rw [HN1.out] at hn3
       refine hn3.mono ?_; rintro e w3 ⟨rfl, hd3, hg3⟩
       have HB3 := Lib.hid (HB2.out.grown hg3 HB2.out.size (fun k e => by cases e; have := HG2.out; have := HLT.out; omega))
       have HX3 := Lib.hid ((hg3.block _ (Array.getElem?_eq_some_iff.1 HX2.out).1 (fun e => by have := Option.some.inj e; have := HG2.out; have := HLT.out; omega)).trans HX2.out)
       have HD3 := Lib.hid hd3
       clear hn3 hd3 hg3)
    | (go_at_call 83
       obtain ⟨W5, hW5⟩ : ∃ W5, W5 = w4.alloc (.cells #[.int .u64 (tm : Int), .int .u64 (vt : Int)] 85) := ⟨_, rfl⟩
       rw [← hW5]
       have hd5 := HD4.out.kept (World.grownBy_alloc w4 (.cells #[.int .u64 (tm : Int), .int .u64 (vt : Int)] 85) none) (by simp)
       rw [← hW5] at hd5
       have r5 : W5.heap[w4.heap.size]? = some (.cells #[.int .u64 (tm : Int), .int .u64 (vt : Int)] 85 (0, 0)) := by rw [hW5]; exact row_here _ _ rfl
       have g0 := cell_of_row W5 _ 0 _ _ _ r5
       have g1 := cell_of_row W5 _ 1 _ _ _ r5
       simp at g0 g1
       have hb5 : Below w4.heap.size w4 W5 := by rw [hW5]; exact (Below.refl _ _).alloc (Nat.le_refl _) _
       have e0 := kept hb5 e0 s4
       have e1 := kept hb5 e1 s4
       have f0 := (hb5.frozen (p := ⟨w.heap.size, 0, none⟩) s4).trans f0
       have f1 := (hb5.frozen (p := ⟨w.heap.size, 1, none⟩) s4).trans f1
       have HB5 := Lib.hid (HB4.out.trans (hb5.mono HB4.out.size))
       refine (end_any g2 ⟨[], false⟩ _ hd5).mono ?_
       rw [show St.end_ ⟨[], false⟩ = 0 from rfl]
       rintro e w5 ⟨rfl, rfl⟩
       clear hd5 r5 hb5 hW5)
    | fail)
  exact bodyPost_ret (v := .tuple #[.agg #[.int .u64 (tm : Int), .int .u64 (vt : Int)], .int .i64 0]) (by simp [results, Try.results56, go_sem, e0, e1]) rfl ⟨rfl, (HB5.out.setCell (Nat.le_refl _) _).setCell (Nat.le_refl _) _⟩
end Go.Proofs.Yteakdmabdfpiiaa

/- The contract of upTo: the blocks from one on, up to where the first of some ends. -/
import Derived.Test.YtdaniaijlkflcaaSpan
namespace Go.Proofs.Ytdaniaijlkflcaa
open Go.RowKit

/-- A method value that tells where a run begins, or ends. -/
def feV (e : Bool × Nat × Nat) : Value := .func (.func (if e.1 then 32 else 32)) #[.agg #[.int .u64 (e.2.1 : Int), .int .u64 (e.2.2 : Int)]] #[]
def feN (e : Bool × Nat × Nat) : Nat := e.2.2
def lim (es : List (Bool × Nat × Nat)) : Nat := es.foldl (fun t e => min t (feN e)) 4294967296
theorem lim_snoc (es : List (Bool × Nat × Nat)) (e : Bool × Nat × Nat) : lim (es ++ [e]) = min (lim es) (feN e) := by simp [lim]
theorem lim_le (es : List (Bool × Nat × Nat)) : lim es ≤ 4294967296 := by
  have : ∀ (l : List (Bool × Nat × Nat)) t, l.foldl (fun t e => min t (feN e)) t ≤ t := by
    intro l
    induction l with
    | nil => intro t; exact Nat.le_refl _
    | cons e l ih => intro t; exact Nat.le_trans (ih _) (Nat.min_le_left _ _)
  exact this es _
def upt (x t : Nat) : Nat × Nat := if t ≤ x then (0, 0) else (x, min (t - x) 4294967295)
theorem upt_lt (x t : Nat) (ht : t ≤ 4294967296) : (upt x t).1 < 4294967296 ∧ (upt x t).2 < 4294967296 := by
  unfold upt; split <;> simp <;> omega
theorem upt_no (x t : Nat) (h : t ≤ x) : upt x t = (0, 0) := by unfold upt; rw [if_pos h]
theorem upt_yes (x t : Nat) (h : x < t) : upt x t = (x, min (t - x) 4294967295) := by unfold upt; rw [if_neg (by omega)]

theorem feV_get (es : List (Bool × Nat × Nat)) (i : Nat) (u : Value) (h : (es.map feV)[i]? = some u) : ∃ e, es[i]? = some e ∧ u = feV e := by
  simp only [List.getElem?_map, Option.map_eq_some_iff] at h
  obtain ⟨x, hx, rfl⟩ := h
  exact ⟨x, hx, rfl⟩

theorem agg_ret (x y : Nat) (p : Nat × Nat) (h : p = (x, y)) : Ending.returned (.agg #[.int .u32 (x : Int), .int .u32 (y : Int)]) = .returned (.agg #[.int .u32 (p.1 : Int), .int .u32 (p.2 : Int)]) := by rw [h]
theorem agg_ret' (a b c d : Int) (h : a = c) (h2 : b = d) : Ending.returned (.agg #[.int .u32 a, .int .u32 b]) = .returned (.agg #[.int .u32 c, .int .u32 d]) := by rw [h, h2]

set_option maxHeartbeats 1000000 in
theorem upTo_any (x : Nat) (A : Option Addr) (n c : Nat) (es : List (Bool × Nat × Nat)) (w : World) (hx : x ≤ 4294967296) (hl : es.length = n) (h : Rd w w.heap.size 1 A n c (es.map feV)) :
    Calls Try.prog 30 #[.int .u64 (x : Int), .slice A n c] w fun e w' => e = .returned (.agg #[.int .u32 ((upt x (lim es)).1 : Int), .int .u32 ((upt x (lim es)).2 : Int)]) ∧ Below w.heap.size w w' := by
  have hnc := h.1
  have hcm := h.2.1
  unfold maxLen at hcm
  have HL := Lib.hid hl
  clear hl
  go_enter Try.func30, Try.ntmps30
  go_wp2
  go_loopw [5, 10] (fun tr ir wr => ∃ i t : Nat, i ≤ n ∧ Hid (t = lim (es.take i)) ∧ ir = .int .i64 i ∧ tr = .int .u64 (t : Int) ∧ Hid (wr.cell? ⟨w.heap.size, 0, none⟩ = some (.int .u32 0) ∧ wr.cell? ⟨w.heap.size, 1, none⟩ = some (.int .u32 0) ∧ wr.frozen? ⟨w.heap.size, 0, none⟩ = false ∧ wr.frozen? ⟨w.heap.size, 1, none⟩ = false) ∧ Below w.heap.size w wr) (fun _ ir _ => n - (intOf ir).toNat)
  case atStart => exact ⟨0, 4294967296, Nat.zero_le _, Lib.hid rfl, rfl, rfl, Lib.hid ⟨by simp, by simp, by simp, by simp⟩, (Below.refl _ _).alloc (Nat.le_refl _) _⟩
  case round =>
    obtain ⟨i, t, hi, ht, rfl, rfl, hcell, hb⟩ := hrel
    by_cases hlt : i < n
    · obtain ⟨b, o, u, rfl, hbl, hu, hc⟩ := (h.below hb).at_ hlt
      obtain ⟨e, he, rfl⟩ := feV_get _ _ _ hu
      have hs : es.take (i + 1) = es.take i ++ [e] := by
        obtain ⟨hi', rfl⟩ := List.getElem?_eq_some_iff.1 he
        exact List.take_succ_eq_append_getElem hi'
      have ht' : Hid (min t (feN e) = lim (es.take (i + 1))) := Lib.hid (by rw [hs, lim_snoc, ht.out])
      have hzr : w.heap.size < wr.heap.size := World.block_lt_of_cell? wr _ hcell.out.1
      obtain ⟨k, y, z⟩ := e
      clear hs he hu
      cases k
      · simp only [feV, Bool.false_eq_true, if_false] at hc
        go_wp2_with (go_at_call 32; refine (rend_any y z _).mono ?_; rintro e w1 ⟨rfl, hb1⟩)
        go_roundw
        case rel => exact ⟨i + 1, min t z, by omega, ht', by go_num, by go_num, Lib.hid ⟨kept hb1 hcell.out.1 hzr, kept hb1 hcell.out.2.1 hzr, keptz hb1 hcell.out.2.2.1 hzr, keptz hb1 hcell.out.2.2.2 hzr⟩, hb.trans (hb1.mono hb.size)⟩
        case measure => simp [intOf]; omega
      · simp only [feV, if_true] at hc
        go_wp2_with (go_at_call 32; refine (rend_any y z _).mono ?_; rintro e w1 ⟨rfl, hb1⟩)
        go_roundw
        case rel => exact ⟨i + 1, min t z, by omega, ht', by go_num, by go_num, Lib.hid ⟨kept hb1 hcell.out.1 hzr, kept hb1 hcell.out.2.1 hzr, keptz hb1 hcell.out.2.2.1 hzr, keptz hb1 hcell.out.2.2.2 hzr⟩, hb.trans (hb1.mono hb.size)⟩
        case measure => simp [intOf]; omega
    · have hT : Hid (t = lim es) := Lib.hid (by rw [ht.out, List.take_of_length_le (by rw [HL.out]; omega)])
      have hTl : t ≤ 4294967296 := by rw [hT.out]; exact lim_le es
      obtain ⟨c0, c1, z0, z1⟩ := hcell.out
      clear ht
      have fin : ∀ (a b : Int) (p q : Nat), a = (p : Int) → b = (q : Int) → upt x t = (p, q) → Ending.returned (.agg #[.int .u32 a, .int .u32 b]) = .returned (.agg #[.int .u32 ((upt x (lim es)).1 : Int), .int .u32 ((upt x (lim es)).2 : Int)]) := by
        intro a b p q ha hb' h
        rw [← hT.out, h, ha, hb']
      have FIN := Lib.hid fin
      clear fin
      by_cases htx : t ≤ x
      · have q2 := Lib.hid (upt_no x t htx)
        go_wp2
        exact bodyPost_ret (v := .agg #[.int .u32 0, .int .u32 0]) (by simp [results, Try.results30, go_sem, c0, c1]) rfl ⟨FIN.out 0 0 0 0 rfl rfl q2.out, (hb.setCell (by simp) _).setCell (by simp) _⟩
      · have q2 := Lib.hid (upt_yes x t (by omega))
        have q3 : (x : Int) < (t : Int) := by omega
        have q4 : (x : Int) < 4294967296 := by omega
        by_cases hm : 4294967295 < (t : Int) - (x : Int)
        · go_wp2
          exact bodyPost_ret (v := .agg #[.int .u32 (x : Int), .int .u32 4294967295]) (by simp [results, Try.results30, go_sem, c0, c1]) rfl ⟨FIN.out (x : Int) 4294967295 x 4294967295 rfl rfl (by rw [q2.out]; congr 1; omega), (hb.setCell (by simp) _).setCell (by simp) _⟩
        · have q5 : (t : Int) - (x : Int) ≤ 4294967295 := by omega
          go_wp2
          exact bodyPost_ret (v := .agg #[.int .u32 (x : Int), .int .u32 ((t : Int) - (x : Int))]) (by simp [results, Try.results30, go_sem, c0, c1]) rfl ⟨FIN.out (x : Int) ((t : Int) - (x : Int)) x (t - x) rfl (by omega) (by rw [q2.out]; congr 1; omega), (hb.setCell (by simp) _).setCell (by simp) _⟩

end Go.Proofs.Ytdaniaijlkflcaa

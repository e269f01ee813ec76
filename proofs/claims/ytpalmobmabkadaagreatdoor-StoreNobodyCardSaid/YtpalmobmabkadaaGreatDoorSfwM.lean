/- Contracts of package alloc: Some. Contracts of package alloc: New, Clone. Where a block may be written: where neither one, nor one of what was saved last, stands. A store beside rows: more of them, fewer; a sector is written; a block is put into the map of those that stand. -/
import Derived.Test.YtpalmobmabkadaaGreatDoorAtakeM
import Derived.Test.YtpalmobmabkadaaGreatDoorSnilM
namespace Go.Proofs.YtpalmobmabkadaaGreatDoor
open Go.RowKit
set_option maxRecDepth 20000

/-- The errors of Some, and how many come out of it. -/
def Av.someE (a : Av) (c : Int) : Int := if c < 0 then 2 else if (a.free : Int) < c then 31 else 0
def Av.someN (a : Av) (c : Int) : Nat := if c < 0 then 0 else if (a.free : Int) < c then 0 else c.toNat
section
variable {w w' : World} {g R k : Nat} {a : Av}
def Somed (w : World) (g R k : Nat) (a : Av) (c : Int) (e : Ending) (w' : World) : Prop := ∃ v, e = .returned (.tuple #[v, .int .i64 (a.someE c)]) ∧ w'.ownsRow w.heap.size 3 1 v (a.someN c) (is (Av.some (a.someN c) a).1) ∧ Alw w' g R k (Av.some (a.someN c) a).2 ∧ w.grownBy w' (some R)
theorem madeCells_is (n : Nat) : (madeCells (Value.cells (.int .i64 0)) (n * 1)).toList = is (List.replicate n 0) := by
  unfold is
  rw [List.map_replicate]
  simp [madeCells, Value.cells, Nat.mod_one, List.map_const']
theorem is_set {l : List Int} {r : List Int} {x : Int} (i : Nat) (h : l.length = i) (hr : r ≠ []) : (is (l ++ r)).set i (.int .i64 x) = is (l ++ [x] ++ r.tail) := by
  subst h
  cases r with
  | nil => exact absurd rfl hr
  | cons y r => simp [is]
set_option maxHeartbeats 1000000 in
theorem asome_any (h : Alw w g R k a) (hT : Tab w) (c : Int) (hc1 : -9223372036854775808 ≤ c) (hc2 : c ≤ 9223372036854775807) :
    Calls Tryz.prog 91 #[.pointer (some ⟨g, 0, none⟩), .int .i64 c] w (Somed w g R k a c) := by
  have HF := Lib.hid (afree_any h)
  have HB := Lib.hid (fun (W : World) (hb : Below w.heap.size w W) => h.below hb)
  unfold Somed Av.someE Av.someN
  have hfr : a.free ≤ 102400 := by
    have h1 := popAll_le a.ws
    have h2 := h.ok.len
    have h3 := h.ok.small
    unfold Av.free
    omega
  by_cases hneg : c < 0
  · simp only [if_pos hneg]
    have q1 : decide (c < 0) = true := by simpa using hneg
    have HH := Lib.hid h
    clear h hT hfr
    go_enter Tryz.func91, Tryz.ntmps91
    go_wp2_with (fail)
    go_ret2
    exact ⟨_, rfl, World.ownsRow_nil _ _ _ _, HH.out, grown_refl _ _⟩
  · simp only [if_neg hneg]
    have q1 : decide (c < 0) = false := by simpa using hneg
    by_cases hm : (a.free : Int) < c
    · simp only [if_pos hm]
      have q2 : decide ((a.free : Int) < c) = true := by simpa using hm
      clear h hT
      generalize a.free = F at *
      go_enter Tryz.func91, Tryz.ntmps91
      go_wp2_with (first
        | (go_at_call 120; refine HF.out.mono ?_; rintro e w1 ⟨rfl, hb1⟩)
        | fail)
      go_ret2
      exact ⟨_, rfl, World.ownsRow_nil _ _ _ _, HB.out _ hb1, grown_of_below hb1⟩
    · simp only [if_neg hm]
      have q2 : decide ((a.free : Int) < c) = false := by simpa using hm
      obtain ⟨n, rfl⟩ : ∃ n : Nat, c = (n : Int) := ⟨c.toNat, by omega⟩
      have hn : n ≤ 102400 := by omega
      have q3 : decide (a.free < n) = false := by simp; omega
      have q4 : ¬ a.free < n := by omega
      rw [Int.toNat_natCast]
      have HT := Lib.hid hT
      have hpos := h.pos
      have hlt := h.lt
      have HLT := Lib.hid hlt
      have HPOS := Lib.hid hpos
      clear h hfr hneg hT hm hc1 hc2 hpos hlt
      generalize a.free = F at *
      go_enter Tryz.func91, Tryz.ntmps91
      go_wp2_with (first
        | (go_at_call 120; refine HF.out.mono ?_; rintro e w1 ⟨rfl, hb1⟩; have HB1 := Lib.hid hb1; clear hb1)
        | (refine wpL_make rfl (.tmp 19) (.tmp 19) _ rfl int_elem (base := w1.heap.size) n rfl rfl rfl rfl (by omega) (by unfold maxLen; omega) (Nat.le_refl _) ?_; intro w2 hown2 hg2)
        | fail)
      rw [madeCells_is] at hown2
      obtain ⟨hrow2, hbase⟩ := ownsRow_row hown2
      have hb2 : Below w.heap.size w w2 := HB1.out.trans ((below_of_grown hg2 (fun q e => by cases e)).mono HB1.out.size)
      have hs1 := HB1.out.size
      obtain ⟨L, hL⟩ : ∃ L, L = w1.heap.size := ⟨_, rfl⟩
      rw [← hL] at hrow2 ⊢
      have HLL := Lib.hid (show w.heap.size ≤ L by omega)
      clear hown2 hg2 hbase hs1 hL HF
      go_loopw [23] (fun ir wr => ∃ i : Nat, i ≤ n ∧ ir = .int .i64 (i : Int) ∧ Hid (wr.heap[L]? = some (.cells (is ((Av.some i a).1 ++ List.replicate (n - i) 0)).toArray 3 (0, 0))) ∧ Hid (Alw wr g R k (Av.some i a).2) ∧ Hid (w.grownBy wr (some R))) (fun ir _ => n - (intOf ir).toNat)
      case atStart => exact ⟨0, Nat.zero_le _, rfl, Lib.hid hrow2, Lib.hid (HB.out _ hb2), Lib.hid (grown_of_below hb2)⟩
      case round =>
        obtain ⟨i, hi, rfl, RR, RA, RG⟩ := hrel
        by_cases hlt : i < n
        · have HTK := Lib.hid (atake_any RA.out (HT.out.grown RG.out HPOS.out.2))
          have HN1 := Lib.hid (show L ≠ g by have := HLT.out; have := HLL.out; omega)
          have HN2 := Lib.hid (show L ≠ R by have := HLT.out; have := HLL.out; omega)
          go_wp2_with (first
            | (go_at_call 121; refine HTK.out.mono ?_; rintro e w3 ⟨rfl, hA3, hg3⟩;
               have hr3 := row_far RR.out hg3 (fun e => HN2.out (by injection e));
               have hlen := is_len ((Av.some i a).1 ++ List.replicate (n - i) 0);
               rw [List.length_append, List.length_replicate, Av.some_len] at hlen;
               have hcl := cell_of_row w3 L i _ _ _ hr3;
               have hfz := frozen_of_row w3 L i _ _ hr3;
               obtain ⟨u0, hu0⟩ : ∃ u0, w3.cell? ⟨L, i, none⟩ = some u0 := by (rw [hcl]; exact ⟨_, by rw [List.getElem?_toArray]; exact List.getElem?_eq_getElem (by omega)⟩);
               have HR3 := Lib.hid hr3; have HA3 := Lib.hid hA3; have HG3 := Lib.hid hg3; clear hr3 hA3 hg3 hlen hcl)
            | fail)
          go_roundw
          case rel =>
            refine ⟨i + 1, by omega, by go_num, Lib.hid ?_, Lib.hid ?_, Lib.hid ?_⟩
            · rw [heap_setCell_same _ L i _ _ _ HR3.out]
              congr 2
              rw [List.setIfInBounds_toArray, is_set i (Av.some_len i a) (by rw [Ne, List.replicate_eq_nil_iff]; omega), List.tail_replicate]
              rfl
            · exact HA3.out.far (setCell_by (p := ⟨L, i, none⟩) (grown_refl _ _) rfl _) HN1.out HN2.out
            · exact grownBy_trans (grownBy_trans RG.out HG3.out (.inl rfl)) (setCell_by (p := ⟨L, i, none⟩) (grown_refl _ (some L)) rfl _) (.inr fun q e => by injection e with e; rw [← e]; exact HLL.out)
          case measure => simp [intOf]; omega
        · obtain rfl : i = n := by omega
          go_wp2
          go_ret2
          have hr := RR.out
          rw [Nat.sub_self, List.replicate_zero, List.append_nil] at hr
          exact ⟨_, rfl, ⟨by rw [is_len, Av.some_len, Nat.mul_one], .inr ⟨L, i, _, rfl, HLL.out, hr, Nat.le_refl _, by unfold maxLen; omega, by simp [is_len, Av.some_len], by first | rw [List.toList_toArray, List.take_of_length_le (by rw [is_len, Av.some_len]; omega)] | (rw [List.take_of_length_le]; rw [List.length_map])⟩⟩, RA.out, RG.out⟩
end
end Go.Proofs.YtpalmobmabkadaaGreatDoor

namespace Go.Proofs.YtpalmobmabkadaaGreatDoor
open Go.RowKit
set_option maxRecDepth 20000

theorem row_elem : Elem Tryz.prog 180 201 (.agg (u64s Z8).toArray) 8 64 := Elem.mk_ Tryz.underlying180 (by kernel_rfl) rfl (by decide)
theorem madeCells_row (k : Nat) : (madeCells (Value.cells (.agg (u64s Z8).toArray)) (k * 8)).toList = u64s (List.replicate (8 * k) 0) := by
  have e : ∀ i, (u64s Z8).toArray[i % (u64s Z8).toArray.size]! = .int .u64 ((0 : Nat) : Int) := by
    intro i
    have h8 : i % 8 < 8 := Nat.mod_lt _ (by decide)
    have hs : (u64s Z8).toArray.size = 8 := rfl
    rw [hs]
    generalize i % 8 = j at h8
    match j, h8 with
    | 0, _ => rfl
    | 1, _ => rfl
    | 2, _ => rfl
    | 3, _ => rfl
    | 4, _ => rfl
    | 5, _ => rfl
    | 6, _ => rfl
    | 7, _ => rfl
  unfold madeCells
  rw [Array.toList_map]
  show List.map (fun x => (u64s Z8).toArray[x % (u64s Z8).toArray.size]!) _ = _
  rw [funext e, List.map_const', u64s, List.map_replicate, Array.length_toList, Array.size_range, Nat.mul_comm]
/-- The first i of n places are free. -/
def filled (n k : Nat) : Nat → Av
  | 0 => ⟨n, List.replicate (8 * k) 0, k, []⟩
  | i + 1 => (filled n k i).flip i
theorem filled_n (n k i : Nat) : (filled n k i).n = n := by
  induction i with
  | zero => rfl
  | succ i ih => exact ih
theorem filled_len (n k i : Nat) : (filled n k i).ws.length = 8 * k := by
  induction i with
  | zero => exact List.length_replicate ..
  | succ i ih => exact (flip_len _ _).trans ih
theorem filled_bit {n k : Nat} (hk : n ≤ 512 * k) (i j : Nat) (hi : i ≤ n) : bitAt (filled n k i).ws j = decide (j < i) := by
  induction i with
  | zero =>
    show bitAt (List.replicate (8 * k) 0) j = _
    unfold bitAt
    have : (List.replicate (8 * k) 0).getD (j / 64) 0 = 0 := by
      rw [List.getD, List.getElem?_replicate]
      split <;> rfl
    rw [this, Nat.zero_testBit]
    simp
  | succ i ih =>
    show bitAt (flipAt (filled n k i).ws i) j = _
    rw [flip_bit _ _ _ (by rw [filled_len]; omega), ih (by omega)]
    by_cases h1 : i = j
    · rw [if_pos h1]; subst h1; simp
    · rw [if_neg h1]
      by_cases h2 : j < i
      · simp [h2]; omega
      · simp [h2]; omega
theorem filled_ok {n k : Nat} (hk : n ≤ 512 * k) (hs : k ≤ 200) (i : Nat) (hi : i ≤ n) : (filled n k i).Ok k := by
  induction i with
  | zero => exact ⟨List.length_replicate .., hk, hs, ⟨Nat.le_refl _, by show k ≤ maxLen; unfold maxLen; omega⟩, fun x hx => by rw [List.eq_of_mem_replicate hx]; decide, fun j _ => by rw [filled_bit hk 0 j (Nat.zero_le _)]; simp⟩
  | succ i ih => exact (ih (by omega)).flip (by rw [filled_n]; omega)
/-- All places are free. -/
def Fresh (a : Av) (n : Nat) : Prop := a.n = n ∧ ∀ j, bitAt a.ws j = decide (j < n)

section
variable {w w' : World} {g R k : Nat} {a : Av}
theorem anew_none (n : Int) (w : World) (hn : n < 1 ∨ 65536 < n) : Calls Tryz.prog 77 #[.int .i64 n] w fun e w' => e = .returned (.pointer none) ∧ w = w' := by
  by_cases h1 : n < 1
  · have q1 : decide (n < 1) = true := by simpa using h1
    go_enter Tryz.func77, Tryz.ntmps77
    go_wp2
    go_ret
    exact ⟨rfl, rfl⟩
  · have h2 : 65536 < n := by omega
    have q1 : decide (n < 1) = false := by simpa using h1
    have q2 : decide (65536 < n) = true := by simpa using h2
    go_enter Tryz.func77, Tryz.ntmps77
    go_wp2
    go_ret
    exact ⟨rfl, rfl⟩
/-- What New makes. -/
def Newly (w : World) (n : Nat) (e : Ending) (w' : World) : Prop := ∃ g R k a, e = .returned (.pointer (some ⟨g, 0, none⟩)) ∧ Alw w' g R k a ∧ Fresh a n ∧ Below w.heap.size w w' ∧ w.heap.size ≤ g ∧ w.heap.size ≤ R
set_option maxHeartbeats 1000000 in
theorem anew_any (n : Nat) (w : World) (h1 : 1 ≤ n) (h2 : n ≤ 65536) (h0 : 0 < w.heap.size) :
    Calls Tryz.prog 77 #[.int .i64 (n : Int)] w (Newly w n) := by
  obtain ⟨k, hk⟩ : ∃ k, k = (n - 1) / 512 + 1 := ⟨_, rfl⟩
  have q1 : decide ((n : Int) < 1) = false := by simp; omega
  have q2 : decide (65536 < (n : Int)) = false := by simp; omega
  have q3 : decide (n < 1) = false := by simp; omega
  have q4 : decide (65536 < n) = false := by simp; omega
  have q5 : ¬ n < 1 := by omega
  have q6 : ¬ 65536 < n := by omega
  have HK := Lib.hid (show ((n : Int) - 1) / 512 + 1 = (k : Int) by omega)
  have hk1 : n ≤ 512 * k := by omega
  have hk2 : k ≤ 128 := by omega
  have HK1 := Lib.hid hk1
  have HK2 := Lib.hid hk2
  have HN := Lib.hid h2
  have H0 := Lib.hid h0
  clear hk hk1 hk2 h0
  unfold Newly
  go_enter Tryz.func77, Tryz.ntmps77
  go_wp2_with (first
    | (at_make; go_loud (refine wpL_make rfl (.tmp 15) (.tmp 15) _ rfl row_elem (base := w.heap.size) k rfl rfl HK.out HK.out (by have := HK2.out; omega) (by unfold maxLen; have := HK2.out; omega) (Nat.le_refl _) ?_); intro w1 hown1 hg1)
    | fail)
  rw [madeCells_row] at hown1
  obtain ⟨hrow1, _⟩ := ownsRow_row hown1
  have hb1 : Below w.heap.size w w1 := below_of_grown hg1 (fun q e => by cases e)
  have hlt1 := (Array.getElem?_eq_some_iff.1 hrow1).1
  obtain ⟨W, hW, _, hr0, hbW⟩ := boxes1 w1 #[.int .i64 (n : Int), .slice (some ⟨w.heap.size, 0, none⟩) k k] 182
  rw [← hW]
  obtain ⟨R, hR⟩ : ∃ R, R = w.heap.size := ⟨_, rfl⟩
  obtain ⟨g, hg⟩ : ∃ g, g = w1.heap.size := ⟨_, rfl⟩
  have HW := Lib.hid (hb1.trans (hbW.mono hb1.size))
  have HR := Lib.hid (show w.heap.size ≤ R ∧ w.heap.size ≤ g by have := hb1.size; omega)
  have HA : Hid (Alw W g R k (filled n k 0)) := by
    refine Lib.hid ⟨?_, ?_, by omega, filled_ok HK1.out (by have := HK2.out; omega) 0 (Nat.zero_le _), by have := H0.out; have := HR.out; omega⟩
    · rw [hg, hR]; exact hr0
    · rw [hR]
      have := (hbW.block _ hlt1).trans hrow1
      show W.heap[w.heap.size]? = some (.cells (u64s (List.replicate (8 * k) 0) ++ []).toArray 201 (0, 0))
      rw [List.append_nil]
      exact this
  rw [← hg]
  clear hown1 hg1 hrow1 hb1 hlt1 hr0 hbW hW hR hg h1
  go_loopw [20] (fun ir wr => ∃ i : Nat, i ≤ n ∧ ir = .int .i64 (i : Int) ∧ Hid (Alw wr g R k (filled n k i)) ∧ Hid (Below w.heap.size w wr)) (fun ir _ => n - (intOf ir).toNat)
  case atStart => exact ⟨0, Nat.zero_le _, rfl, HA, HW⟩
  case round =>
    obtain ⟨i, hi, rfl, RA, RB⟩ := hrel
    by_cases hlt : i < n
    · have HT := Lib.hid (turn_any RA.out i (by rw [filled_n]; exact hlt))
      have hn3 : (i : Int) ≤ 70000 := by have := HN.out; omega
      go_wp2_with (first
        | (go_at_call 114; refine HT.out.mono ?_; rintro e w3 ⟨rfl, hA3, hg3⟩; have HA3 := Lib.hid hA3; have HG3 := Lib.hid hg3; clear hA3 hg3)
        | fail)
      go_roundw
      case rel => exact ⟨i + 1, by omega, by go_num, HA3, Lib.hid (RB.out.grown HG3.out RB.out.size (fun j e => by injection e with e; rw [← e]; exact HR.out.1))⟩
      case measure => simp [intOf]; omega
    · obtain rfl : i = n := by omega
      go_wp2
      go_ret
      exact ⟨g, R, k, _, rfl, RA.out, ⟨filled_n _ _ _, fun j => filled_bit HK1.out _ _ (Nat.le_refl _)⟩, RB.out, HR.out.2, HR.out.1⟩
def RCl (w : World) (k : Nat) (ws : List Nat) (e : Ending) (w' : World) : Prop := ∃ R' c tl, e = .returned (.slice (some ⟨R', 0, none⟩) k c) ∧ w'.heap[R']? = some (.cells (u64s ws ++ tl).toArray 201 (0, 0)) ∧ Hid (w.heap.size ≤ R') ∧ Hid (k ≤ c ∧ c ≤ maxLen) ∧ Below w.heap.size w w'
end
end Go.Proofs.YtpalmobmabkadaaGreatDoor

namespace Go.Proofs.YtpalmobmabkadaaGreatDoor
open Go.RowKit
set_option maxRecDepth 20000

section
variable {P : Program} {w : World} {ops : Array Oper} {rest : List Oper} {o : Oper} {a : Act} {Q : Exit → Act → World → Prop}
theorem wpL_nextS (hgd : o.guard = none) (x : Operand) (ho : o.op = .next x false) {k : TypeId} (hk : P.underlying k = some (.int .u32)) {b r n cnt : Nat} {f : SaysS} {left : Int → Bool} (hx : a.eval x = .pointer (some ⟨r, 0, none⟩)) (hR : RangeS P k w b r n f left cnt)
    (hdone : (∀ x, left x = false) → wpList P ops Q rest (a.put o.dst (.tuple #[.bool false])) w)
    (hmore : ∀ x s w' cnt', KeyS x → left x = true → f x = some s → IOk s → RangeS P k w' b r n f (fun y => left y && !decide (y = x)) cnt' → cnt' < cnt → w.grownBy w' (some r) → w'.heap.size = w.heap.size → (Instr.entry (.pointer (some ⟨r, 0, none⟩))).run P w' = .ok (.tuple #[.int .u32 x, .int .i64 s]) w' → wpList P ops Q rest (a.put o.dst (.tuple #[.bool true, .int .u32 x, .int .i64 s])) w') : wpList P ops Q (o :: rest) a w := by
  refine wpList_plain hgd fun K hK => ?_
  unfold Oper.wp
  rcases hR.next hk o.type with ⟨hl, hrun⟩ | ⟨x, s, w', cnt', hkx, hlx, hfx, hs, hrun, hR', hlt, hg, hz, hen⟩
  · simp only [execOp, ho, hx, Sem.run_bind, hrun, Result.andThen_ok, Sem.run_pure]
    exact hK _ _ (hdone hl)
  · simp only [execOp, ho, hx, Sem.run_bind, hrun, Result.andThen_ok, Sem.run_pure]
    exact hK _ _ (hmore x s w' cnt' hkx hlx hfx hs hR' hlt hg hz hen)
end
section
variable {P : Program} {k : TypeId} {w : World} {b r n cnt : Nat} {f : SaysS} {left : Int → Bool}
theorem RangeS.ne (h : RangeS P k w b r n f left cnt) : r ≠ b := by obtain ⟨D, lf, h1, _⟩ := h; exact h1.ne
theorem RangeS.lt (h : RangeS P k w b r n f left cnt) : r < w.heap.size := by obtain ⟨D, lf, h1, _⟩ := h; exact h1.lt
end

/-- All that a map tells of lies below m. -/
def Pl (f : SaysS) (m : Nat) : Prop := ∀ x s, f x = some s → 0 ≤ s ∧ s < (m : Int)
/-- Of m places those are free that T does not name. -/
def Frees (a : Av) (m : Nat) (T : Int → Prop) : Prop := a.n = m ∧ ∀ j : Nat, bitAt a.ws j = true ↔ j < m ∧ ¬ T (j : Int)
theorem Frees.fresh {a : Av} {m : Nat} (h : Fresh a m) : Frees a m (fun _ => False) := ⟨h.1, fun j => by rw [h.2]; simp⟩
theorem Frees.eq {a : Av} {m : Nat} {T T' : Int → Prop} (h : Frees a m T) (hT : ∀ j : Nat, T (j : Int) ↔ T' (j : Int)) : Frees a m T' := ⟨h.1, fun j => by rw [h.2, hT]⟩
theorem Frees.hold {a : Av} {m k : Nat} {T : Int → Prop} (h : Frees a m T) (ho : a.Ok k) {s : Int} (h0 : 0 ≤ s) (h1 : s < (m : Int)) : Frees (a.hold s).2 m (fun j => T j ∨ j = s) := by
  obtain ⟨i, rfl⟩ : ∃ i : Nat, s = (i : Int) := ⟨s.toNat, by omega⟩
  have hi : i < m := by omega
  have hin : inA a (i : Int) = true := by unfold inA; rw [h.1]; simp; omega
  unfold Av.hold
  rw [hin]
  simp only [Bool.true_eq_false, if_false, Int.toNat_natCast]
  cases hb : bitAt a.ws i with
  | false =>
    simp only [if_true]
    have hT : T (i : Int) := by
      apply Classical.byContradiction
      intro hn
      have := (h.2 i).2 ⟨hi, hn⟩
      rw [hb] at this
      cases this
    refine h.eq fun j => ⟨.inl, fun hj => hj.elim id (fun e => by rw [e]; exact hT)⟩
  | true =>
    simp only [Bool.true_eq_false, if_false]
    refine ⟨h.1, fun j => ?_⟩
    show bitAt (flipAt a.ws i) j = true ↔ _
    rw [flip_bit _ _ _ (by have := ho.len; have := ho.room; have := h.1; omega)]
    by_cases hj : i = j
    · subst hj
      rw [if_pos rfl, hb]
      simp
    · rw [if_neg hj, h.2]
      have : ¬ ((j : Int) = (i : Int)) := by omega
      simp [this]
/-- Taken by what was ranged over so far. -/
def Rng (f : SaysS) (left : Int → Bool) (j : Int) : Prop := ∃ x, f x = some j ∧ left x = false
theorem Rng.start (f : SaysS) (j : Int) : ¬ Rng f (fun x => (f x).isSome) j := by
  rintro ⟨x, h1, h2⟩
  have h3 : (f x).isSome = false := h2
  rw [h1] at h3
  cases h3
theorem Rng.all {f : SaysS} {left : Int → Bool} (h : ∀ x, left x = false) (j : Int) : Rng f left j ↔ ∃ x, f x = some j := ⟨fun ⟨x, h1, _⟩ => ⟨x, h1⟩, fun ⟨x, h1⟩ => ⟨x, h1, h x⟩⟩
theorem Rng.step {f : SaysS} {left : Int → Bool} {x s : Int} (hx : f x = some s) (j : Int) : (Rng f left j ∨ j = s) ↔ Rng f (fun y => left y && !decide (y = x)) j := by
  constructor
  · rintro (⟨y, h1, h2⟩ | rfl)
    · exact ⟨y, h1, by simp [h2]⟩
    · exact ⟨x, hx, by simp⟩
  · rintro ⟨y, h1, h2⟩
    by_cases hy : y = x
    · subst hy
      exact .inr (by rw [hx] at h1; exact (Option.some.inj h1).symm)
    · exact .inl ⟨y, h1, by simpa [hy] using h2⟩
/-- What of a store's two maps was held. -/
def Held2 (fn fs : SaysS) (i : Nat) (j : Int) : Prop := (1 ≤ i ∧ ∃ x, fn x = some j) ∨ (2 ≤ i ∧ ∃ x, fs x = some j)
/-- What free tells. -/
def Freed (W : World) (m : Nat) (fn fs : SaysS) (e : Ending) (w' : World) : Prop := ∃ g R k a, e = .returned (.pointer (some ⟨g, 0, none⟩)) ∧ Alw w' g R k a ∧ Frees a m (fun j => (∃ x, fn x = some j) ∨ ∃ x, fs x = some j) ∧ Below W.heap.size W w' ∧ W.heap.size ≤ g ∧ W.heap.size ≤ R
set_option maxHeartbeats 4000000 in
theorem sfree_any {W : World} {S bn bs kn ks : Nat} {g T : Option Addr} {v : Sv} {fn fs : SaysS} (h : Srow W S g T (some bn) (some bs) v) (hn : St8 W bn kn fn) (hs : St8 W bs ks fs) (h1 : v.n ≤ 64) (hpn : Pl fn (2 * v.n + 8)) (hps : Pl fs (2 * v.n + 8)) (h0 : 0 < W.heap.size) :
    Calls Tryz.prog 90 #[.pointer (some ⟨S, 0, none⟩)] W (Freed W (2 * v.n + 8) fn fs) := by
  have HB := Lib.hid (fun W => behind_any v.n W h1)
  have c3 := h.c3
  obtain ⟨m, hm⟩ : ∃ m, m = 2 * v.n + 8 := ⟨_, rfl⟩
  rw [← hm] at HB hpn hps ⊢
  have HN := Lib.hid (anew_any m W (by omega) (by omega) h0)
  have HM := Lib.hid (show m ≤ 136 by omega)
  have HH := Lib.hid h
  have HMN := Lib.hid hn
  have HMS := Lib.hid hs
  have HPN := Lib.hid hpn
  have HPS := Lib.hid hps
  unfold Newly at HN
  unfold Freed
  clear h hn hs h1 hpn hps h0 hm
  go_enter Tryz.func90, Tryz.ntmps90
  go_wp2_with (first
    | (go_at_call 57; refine (HB.out _).mono ?_; rintro e w1 ⟨rfl, rfl⟩)
    | (go_at_call 77; refine HN.out.mono ?_; clear HN; rintro e w1 ⟨ga, R, k, a, rfl, hA, hF, hb1, hga, hR⟩)
    | fail)
  have HA1 := Lib.hid hA
  have HF1 := Lib.hid (Frees.fresh hF)
  have HB1 := Lib.hid hb1
  have HGR := Lib.hid (And.intro hga hR)
  have d22 := (HH.out.below hb1).c22
  have d23 := (HH.out.below hb1).c23
  clear hA hF hb1 hga hR HB c3
  refine wp_segs [([0, 1, 2, 3, 4, 5, 6, 7, 10], 8)] [9] (fun x => x.cell? ⟨S, 22, none⟩ = some (.map (some bn)) ∧ x.cell? ⟨S, 23, none⟩ = some (.map (some bs))) (by kernel_rfl) (by kernel_rfl) (fun d _ _ _ _ h => by cases d <;> exact h) ⟨d22, d23⟩ ?_
  intro f hf
  have F1 : ∀ z, (f z).cell? ⟨S, 22, none⟩ = some (.map (some bn)) := fun z => (hf z).1
  have F2 : ∀ z, (f z).cell? ⟨S, 23, none⟩ = some (.map (some bs)) := fun z => (hf z).2
  simp only [pickI, Option.toList_some, List.cons_append, List.nil_append, List.getElem?_toArray, List.getElem?_cons_succ, List.getElem?_cons_zero]
  repeat (go_big_quiet_step (fail))
  refine wpQuiet_nil ?_
  clear F1 F2 hf f
  refine seg_op (by simp only [List.getElem?_toArray, List.getElem?_cons_succ, List.getElem?_cons_zero]; rfl) fun K hK => ?_
  go_simp
  have hbX : Below w1.heap.size w1 (w1.alloc (.cells #[.map (some bn), .map (some bs)] 70)).drew := (below1 w1 _).drew
  have hrX : (w1.alloc (.cells #[.map (some bn), .map (some bs)] 70)).drew.heap[w1.heap.size]? = some (.cells #[.map (some bn), .map (some bs)] 70 (0, 0)) := heap_alloc_new w1 _
  have HAX := Lib.hid (HA1.out.below hbX)
  have HBX := Lib.hid (HB1.out.trans (hbX.mono HB1.out.size))
  have HRX := Lib.hid hrX
  have hsep : R < w1.heap.size ∧ ga < w1.heap.size := ⟨HA1.out.lt.2, HA1.out.lt.1⟩
  have e22 := (HH.out.below HBX.out).c22
  have e23 := (HH.out.below HBX.out).c23
  generalize (w1.alloc (.cells #[.map (some bn), .map (some bs)] 70)).drew = X at *
  have HSP := Lib.hid hsep
  obtain ⟨r0, hr0⟩ : ∃ r0, r0 = w1.heap.size := ⟨_, rfl⟩
  rw [← hr0] at HRX HSP ⊢
  clear hbX hrX hsep hr0 HA1 HB1 d22 d23
  refine hK.out _ _ ⟨_, ⟨e22, e23⟩, fun _ h => h, ?_⟩
  clear hK K e22 e23
  intro f hf
  simp only [pickI, Option.toList_some, List.cons_append, List.nil_append, List.getElem?_toArray, List.getElem?_cons_succ, List.getElem?_cons_zero]
  repeat (go_big_quiet_step (fail))
  refine wpQuiet_nil ?_
  clear hf f
  go_wp2_with (fail)
  go_loopw [24] (fun ir wr => ∃ i a, i ≤ 2 ∧ ir = .int .i64 ((i : Nat) : Int) ∧ Hid (Alw wr ga R k a) ∧ Hid (Frees a m (Held2 fn fs i)) ∧ Hid (Below W.heap.size W wr) ∧ Hid (wr.heap[r0]? = some (.cells #[.map (some bn), .map (some bs)] 70 (0, 0)))) (fun ir _ => 2 - (intOf ir).toNat)
  case atStart => exact ⟨0, a, by omega, rfl, HAX, Lib.hid (HF1.out.eq fun j => ⟨False.elim, fun h => by rcases h with ⟨h, _⟩ | ⟨h, _⟩ <;> omega⟩), HBX, HRX⟩
  case round =>
    clear HAX HF1 HBX HRX
    obtain ⟨i, a', hi, rfl, HA, HF, HBW, HRW⟩ := hrel
    by_cases hlt : i < 2
    · obtain ⟨b, f, q, hc, hm, hp, hT⟩ : ∃ b f q, wr.cell? ⟨r0, i, none⟩ = some (.map (some b)) ∧ St8 W b q f ∧ Pl f m ∧ ∀ j : Int, Held2 fn fs (i + 1) j ↔ Held2 fn fs i j ∨ ∃ x, f x = some j := by
        rcases (by omega : i = 0 ∨ i = 1) with rfl | rfl
        · refine ⟨bn, fn, kn, cell_of_row wr r0 0 _ _ _ HRW.out, HMN.out, HPN.out, fun j => ?_⟩
          unfold Held2
          simp
        · refine ⟨bs, fs, ks, cell_of_row wr r0 1 _ _ _ HRW.out, HMS.out, HPS.out, fun j => ?_⟩
          unfold Held2
          simp
      have hmw : St8 wr b q f := hm.kept (only_of_below HBW.out none) (fun e => by cases e)
      obtain ⟨w2, cnt0, hrr, hR0, hg2, hz2⟩ := hmw.range Tryz.underlying23 Tryz.underlying70
      have hb2 : Below wr.heap.size wr w2 := (Below.refl _ _).grown hg2 (Nat.le_refl _) (fun k e => by cases e)
      obtain ⟨r, hr⟩ : ∃ r, r = wr.heap.size := ⟨_, rfl⟩
      rw [← hr] at hrr hR0
      have hlb := hmw.lt
      have hA2 := HA.out.below hb2
      have hlA := HA.out.lt
      have HA2 := Lib.hid hA2
      have HR0 := Lib.hid hR0
      have HB2 := Lib.hid (HBW.out.trans (hb2.mono HBW.out.size))
      have hlr := (Array.getElem?_eq_some_iff.1 HRW.out).1
      have HW2 := Lib.hid (row_below HRW.out hb2)
      have HLT := Lib.hid (show R < r ∧ ga < r ∧ r0 < r ∧ b < r ∧ W.heap.size ≤ r ∧ b ≠ R ∧ R ≠ r0 by
        have h1 := HSP.out
        have h2 := HBW.out.size
        have h3 := HGR.out
        have h4 := hm.lt
        omega)
      have HP := Lib.hid hp
      have HT := Lib.hid hT
      clear hmw hm hp hT hg2 hz2 hb2 hR0 hA2 hlA hlb hlr HRW HA hr
      have d2 : decide ((i : Int) < 2) = true := by simp; omega
      have d3 : (i : Int) < 2 := by omega
      clear hlt
      go_wp2_with (first
        | (refine wpL_range rfl _ (.tmp 28) rfl rfl hrr ?_)
        | fail)
      go_frame
      have hlt : i < 2 := by omega
      have HLT2 := Lib.hid hlt
      clear hlt d3
      clear d2
      go_loopw [7] (fun _ wq => ∃ left cnt a2, Hid (RangeS Tryz.prog 23 wq b r q f left cnt) ∧ Hid (Alw wq ga R k a2) ∧ Hid (Frees a2 m (fun j => Held2 fn fs i j ∨ Rng f left j)) ∧ Hid (Below W.heap.size W wq) ∧ Hid (wq.heap[r0]? = some (.cells #[.map (some bn), .map (some bs)] 70 (0, 0)))) (fun _ wq => wq.rangeLeft b r)
      case atStart => exact ⟨_, cnt0, a', HR0, HA2, Lib.hid (HF.out.eq fun j => ⟨.inl, fun h => h.elim id (fun h => (Rng.start f _ h).elim)⟩), HB2, HW2⟩
      case round =>
        clear HR0 HA2 HF HB2 HW2 hrr
        obtain ⟨left, cnt, a2, hR, HA, HF, HBW, HRW⟩ := hrel
        go_wp2_with (first
          | (refine wpL_nextS rfl (.tmp 29) rfl Tryz.underlying23 rfl hR.out (fun hall => ?_) (fun x s w3 cnt3 hkx hlx hfx hs3 hR3 hlt3 hg3 hz3 hen => ?_))
          | (go_at_call 78
             have hA3 := HA.out.far hg3 (by have := HLT.out; omega) (by have := HLT.out; omega)
             have HH3 := Lib.hid (ahold_any hA3 s hs3.1 hs3.2)
             refine HH3.out.mono ?_; rintro e w4 ⟨rfl, hA4, hg4⟩)
          | fail)
        · exact ⟨⟨i + 1, a2, by have := HLT2.out; omega, rfl, HA, Lib.hid (HF.out.eq fun j => ((HT.out j).trans (or_congr Iff.rfl (Rng.all hall j).symm)).symm), HBW, HRW⟩, by have := HLT2.out; simp [intOf]; omega⟩
        · have hps := HP.out x s hfx
          have hL := HLT.out
          have hG := HGR.out
          have hF4 := (HF.out.hold HA.out.ok hps.1 hps.2).eq (T' := fun j => Held2 fn fs i j ∨ Rng f (fun y => left y && !decide (y = x)) j) (fun j => by rw [or_assoc, Rng.step hfx])
          have hR4 := hR3.kept hg4 (fun e => by have := Option.some.inj e; omega) (fun e => by have := Option.some.inj e; omega)
          have hb3 := HBW.out.grown hg3 HBW.out.size (fun k e => by have := Option.some.inj e; omega)
          have hb4 := hb3.grown hg4 hb3.size (fun k e => by have := Option.some.inj e; omega)
          have hr4 := row_far (row_far HRW.out hg3 (fun e => by have := Option.some.inj e; omega)) hg4 (fun e => by have := Option.some.inj e; omega)
          have hm1 := hR.out.left_eq
          have hm2 := hR4.left_eq
          have HHA := Lib.hid hA4
          have HHR := Lib.hid hR4
          have HHF := Lib.hid hF4
          have HHB := Lib.hid hb4
          have HHW := Lib.hid hr4
          have HHM := Lib.hid (show w4.rangeLeft b r < wr.rangeLeft b r by rw [hm1, hm2]; exact hlt3)
          clear hA4 hR4 hF4 hb4 hr4 hb3 hm1 hm2 hR3 hlt3 hg3 hg4 hen hps hL hG HH3 hA3
          go_roundw
          case rel => exact ⟨_, cnt3, _, HHR, HHA, HHF, HHB, HHW⟩
          case measure => exact HHM.out
    · obtain rfl : i = 2 := by omega
      go_wp2_with (fail)
      go_ret
      exact ⟨ga, R, k, a', rfl, HA.out, HF.out.eq fun j => by unfold Held2; simp, HBW.out, HGR.out.1, HGR.out.2⟩
end Go.Proofs.YtpalmobmabkadaaGreatDoor

namespace Go.Proofs.YtpalmobmabkadaaGreatDoor
open Go.RowKit
set_option maxRecDepth 20000

section
variable {X X' : Nat → Prop} {w W W' : World} {B g T S bn bs M M' kn ks : Nat} {d d' : Dv} {t t' : Tv} {v : Sv} {fn fs : SaysS}
theorem Slx.xlt (h : Slx X w W B g T S bn bs M kn ks d t v fn fs) (i : Nat) (hi : X i) : i < W.heap.size := h.tlx.xlt i (.inl hi)
theorem Slx.bel (h : Slx X w W B g T S bn bs M kn ks d t v fn fs) : Below w.heap.size w W := h.tlx.bel
theorem Tlx.less (h : Tlx X w W B g T M d t) (hX : ∀ i, X' i → X i) : Tlx X' w W B g T M d t := by
  obtain ⟨N, h1, h2, h3, h4, h5, h6, h7⟩ := h
  exact ⟨N, h1, h2, h3, fun i hi => ⟨(h4 i hi).1, fun hx => (h4 i hi).2 (hX i hx)⟩, ⟨h5.1, fun hx => h5.2 (hX T hx)⟩, fun i hi => h6 i (hX i hi), h7⟩
theorem Off.less (hX : ∀ i, X' i → X i) {i : Nat} (h : Off X w i) : Off X' w i := ⟨h.1, fun hx => h.2 (hX i hx)⟩
theorem Slx.less (h : Slx X w W B g T S bn bs M kn ks d t v fn fs) (hX : ∀ i, X' i → X i) : Slx X' w W B g T S bn bs M kn ks d t v fn fs :=
  ⟨h.tlx.less (fun i hi => hi.imp (hX i) id), h.row, h.now, h.saved, h.new, ⟨h.apart.1, h.apart.2.1, h.apart.2.2.1, fun hx => h.apart.2.2.2.1 (hX _ hx), fun hx => h.apart.2.2.2.2.1 (hX _ hx), fun hx => h.apart.2.2.2.2.2 (hX _ hx)⟩⟩
theorem Slx.lts (h : Slx X w W B g T S bn bs M kn ks d t v fn fs) : S < W.heap.size ∧ bn < W.heap.size ∧ bs < W.heap.size := ⟨h.row.lt, h.now.lt, h.saved.lt⟩
/-- Rows that are new may be beside it. -/
theorem Slx.more (h : Slx X w W B g T S bn bs M kn ks d t v fn fs) (hb : Below W.heap.size W W') (hX : ∀ i, X' i → (X i ∨ W.heap.size ≤ i) ∧ i < W'.heap.size) : Slx X' w W' B g T S bn bs M kn ks d t v fn fs := by
  obtain ⟨l1, l2, l3⟩ := h.lts
  refine ⟨h.tlx.more hb (fun i hi => ?_), h.row.below hb, h.now.kept (only_of_below hb none) (fun e => by cases e), h.saved.kept (only_of_below hb none) (fun e => by cases e), h.new, ⟨h.apart.1, h.apart.2.1, h.apart.2.2.1, fun hx => ?_, fun hx => ?_, fun hx => ?_⟩⟩
  · rcases hi with hi | rfl | rfl | rfl
    · exact ⟨(hX i hi).1.imp .inl id, (hX i hi).2⟩
    · exact ⟨.inl (.inr (.inl rfl)), Nat.lt_of_lt_of_le l1 hb.size⟩
    · exact ⟨.inl (.inr (.inr (.inl rfl))), Nat.lt_of_lt_of_le l2 hb.size⟩
    · exact ⟨.inl (.inr (.inr (.inr rfl))), Nat.lt_of_lt_of_le l3 hb.size⟩
  · rcases (hX S hx).1 with h1 | h1
    · exact h.apart.2.2.2.1 h1
    · omega
  · rcases (hX bn hx).1 with h1 | h1
    · exact h.apart.2.2.2.2.1 h1
    · omega
  · rcases (hX bs hx).1 with h1 | h1
    · exact h.apart.2.2.2.2.2 h1
    · omega
theorem Slx.le (h : Slx X w W B g T S bn bs M kn ks d t v fn fs) (hM : M ≤ M') : Slx X w W B g T S bn bs M' kn ks d t v fn fs := ⟨h.tlx.le hM, h.row, h.now, h.saved, h.new, h.apart⟩
/-- A sector is written, out of a row that is new. -/
theorem slx_dwrite (h : Slx X w W B g T S bn bs M kn ks d t v fn fs) (hM : M ≤ 100000) (hd : d.down = false) (hb : Below W.heap.size W W') (x : Int) (q : Nat) (hq : W.heap.size ≤ q) (l : List UInt8) (hl : Rd W' W'.heap.size 1 (some ⟨q, 0, none⟩) 8 8 (u8s l)) (hx : 0 ≤ x) (hin : x + 1 ≤ d.n) :
    Calls Tryz.prog 92 #[.pointer (some ⟨g, 0, none⟩), .int .i64 x, .slice (some ⟨q, 0, none⟩) 8 8] W' fun e w' => e = .returned (.int .i64 (d.write x l 1).2) ∧ Slx X w w' B g T S bn bs (M + 64) kn ks (d.write x l 1).1 t v fn fs ∧ Keeps (fun i => Off X w i ∧ i < W.heap.size ∧ i ≠ S ∧ i ≠ bn ∧ i ≠ bs) W' w' := by
  obtain ⟨N, k1, k2, k3, k4, k5, k6, k7⟩ := h.tlx
  have hO := (k1.mono (Nat.le_refl _) (fun i hi hn => (⟨hn, hi⟩ : N i ∧ i < W.heap.size))).below hb
  refine (own_write hO hM hd x _ 8 8 l hl (fun _ b o e hn => by cases e; have := hn.2; omega) hx (by omega) (by omega)).mono ?_
  rintro e w' ⟨rfl, hL, hK⟩
  have hT := k2.lt
  have l1 := h.lts
  have hXX : ∀ i, (X i ∨ i = S ∨ i = bn ∨ i = bs) → i < W.heap.size := k6
  have hNX : ∀ i, N i → ¬ (X i ∨ i = S ∨ i = bn ∨ i = bs) := fun i hi => (k4 i hi).2
  refine ⟨rfl, ⟨⟨fun i => (N i ∧ i < W.heap.size) ∨ W'.heap.size ≤ i, hL, hK.row (k2.below hb) (fun hn => k3 hn.1), ?_, ?_, k5, ?_, ?_⟩, ?_, ?_, ?_, h.new, h.apart⟩, ?_⟩
  · rintro (hn | hn)
    · exact k3 hn.1
    · have := hb.size
      omega
  · rintro i (hn | hn)
    · exact k4 i hn.1
    · have h1 := hb.size
      have h2 := k7.size
      exact ⟨by omega, fun hx => by have := hXX i hx; omega⟩
  · intro i hi
    have h1 := hXX i hi
    have h2 := hb.size
    have h3 := hK.size
    omega
  · exact k7.trans ((hb.mono k7.size).trans (hK.below (Nat.le_trans k7.size hb.size) (fun i hi => (k4 i hi.1).1)))
  · exact (h.row.below hb).same (hK.block S (by have := hb.size; omega) (fun hn => hNX S hn.1 (.inr (.inl rfl))))
  · exact (h.now.kept (only_of_below hb none) (fun e => by cases e)).same (hK.block bn (by have := hb.size; omega) (fun hn => hNX bn hn.1 (.inr (.inr (.inl rfl)))))
  · exact (h.saved.kept (only_of_below hb none) (fun e => by cases e)).same (hK.block bs (by have := hb.size; omega) (fun hn => hNX bs hn.1 (.inr (.inr (.inr rfl)))))
  · exact hK.wide fun i hi => ⟨⟨(k4 i hi.1).1, fun hx => (k4 i hi.1).2 (.inl hx)⟩, hi.2, fun e => hNX i hi.1 (.inr (.inl e)), fun e => hNX i hi.1 (.inr (.inr (.inl e))), fun e => hNX i hi.1 (.inr (.inr (.inr e)))⟩
/-- The map of those that stand is turned. -/
theorem Slx.setNow {kn' : Nat} {fn' : SaysS} (h : Slx X w W B g T S bn bs M kn ks d t v fn fs) (hg : W.grownBy W' (some bn)) (hm : St8 W' bn kn' fn') : Slx X w W' B g T S bn bs M kn' ks d t v fn' fs :=
  ⟨h.tlx.turn ((Keeps.refl _ _).grown hg (fun k e => .inl (by cases e; exact ⟨.inr (.inr (.inl rfl)), h.new.2.1⟩))), h.row.kept hg (fun e => h.apart.1 (by injection e)), hm, h.saved.kept hg (fun e => h.apart.2.2.1 (by injection e with e; exact e.symm)), h.new, h.apart⟩
end
end Go.Proofs.YtpalmobmabkadaaGreatDoor

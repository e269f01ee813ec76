/- An item that tells of a set; of an item its set; the chapter's example. -/
import Derived.Test.YtlpckhjmbfeegaaFa
import Derived.Test.YtlpckhjmbfeegaaNum
import Derived.Test.YtlpckhjmbfeegaaCa
namespace Go.Proofs.Ytlpckhjmbfeegaa
open Go.RowKit
set_option maxRecDepth 20000
section
variable {P : Program} {w : World}
theorem eqFieldsG (d : Nat) (xs ys : Array Value) (f : Field) (fs : List Field) (n : f.name ≠ "_") (a b : Value) (r : Bool) (h : (Go.part f.type xs f.offset).run P w = .ok a w) (k : (Go.part f.type ys f.offset).run P w = .ok b w)
    (e : (Op.equalIn d f.type a b).run P w = .ok r w) : (Op.eqFields d xs ys (f :: fs)).run P w = if r = true then (Op.eqFields d xs ys fs).run P w else .ok false w := by
  rw [Op.eqFields, if_pos n]
  cases r
  · simp only [Sem.run_bind, h, k, e, Result.andThen_ok, Bool.not_false, if_true, Sem.run_pure, Bool.false_eq_true, if_false]
  · simp only [Sem.run_bind, h, k, e, Result.andThen_ok, Bool.not_true, Bool.false_eq_true, if_false, if_true]
theorem eqFieldsG0 (d : Nat) (xs ys : Array Value) : (Op.eqFields d xs ys []).run P w = .ok true w := by
  rw [Op.eqFields]
  rfl
theorem part_oneG {t : TypeId} {D : TypeDesc} (ht : P.underlying t = some D) (hD : D.isRow = false) {cs : Array Value} {j : Nat} {x : Value} (hx : cs[j]? = some x) : (Go.part t cs j).run P w = .ok x w := by
  have ha : (isAgg t).run P w = .ok false w := by
    unfold isAgg
    rw [Sem.run_bind, run_underlying ht w]
    cases D <;> first | rfl | simp [TypeDesc.isRow] at hD
  simp [Go.part, Sem.run_bind, ha, hx, Result.andThen]
end
theorem str_inj {a b : List UInt8} (h : (str a).toList = (str b).toList) : a = b := by
  have e : ∀ l : List UInt8, (str l).toList = l := fun l => ByteArray.toList_mk l
  rwa [e, e] at h
theorem str_beq (a b : List UInt8) : ((str a).toList == (str b).toList) = decide (a = b) := by
  rw [Bool.eq_iff_iff]
  simp only [beq_iff_eq, decide_eq_true_eq]
  exact ⟨str_inj, fun e => by rw [e]⟩
def sameB (x y : It) : Bool := decide (x.tm = y.tm) && (decide (x.kd = y.kd) && decide (x.tx = y.tx))
theorem itq_eq (x y : It) (w : World) (d : Nat) : (Op.equalIn (d + 2) 47 (.agg x.cells) (.agg y.cells)).run Try.prog w = .ok (sameB x y) w := by
  have ht : Try.prog.underlying 47 = some (.struct (Try.prog.fieldsOf 47)) := by kernel_rfl
  have hp : Try.prog.stoodInHeld 47 = false := by kernel_rfl
  obtain ⟨f0, f1, f2, hf, n0, n1, n2, u0, u1, u2, o0, o1, o2⟩ : ∃ f0 f1 f2 : Field, (Try.prog.fieldsOf 47).toList = [f0, f1, f2] ∧ f0.name ≠ "_" ∧ f1.name ≠ "_" ∧ f2.name ≠ "_" ∧
      Try.prog.underlying f0.type = some (.int .u64) ∧ Try.prog.underlying f1.type = some (.int .i64) ∧ Try.prog.underlying f2.type = some .string ∧ f0.offset = 0 ∧ f1.offset = 1 ∧ f2.offset = 2 := by
    unfold Program.fieldsOf
    rw [Try.underlying47]
    exact ⟨_, _, _, rfl, by simp, by simp, by simp, Try.underlying22, Try.underlying3, Try.underlying9, rfl, rfl, rfl⟩
  rw [run_equalIn_struct w (d + 1) _ _ _ ht hp, hf]
  rw [eqFieldsG (d + 1) _ _ f0 _ n0 _ _ _ (part_oneG u0 rfl (by rw [o0]; rfl)) (part_oneG u0 rfl (by rw [o0]; rfl)) (run_equalIn_int w d _ .u64 .u64 _ _ u0),
    eqFieldsG (d + 1) _ _ f1 _ n1 _ _ _ (part_oneG u1 rfl (by rw [o1]; rfl)) (part_oneG u1 rfl (by rw [o1]; rfl)) (run_equalIn_int w d _ .i64 .i64 _ _ u1),
    eqFieldsG (d + 1) _ _ f2 _ n2 _ _ _ (part_oneG u2 rfl (by rw [o2]; rfl)) (part_oneG u2 rfl (by rw [o2]; rfl)) (run_equalIn_string (w := w) d _ _ _ u2), eqFieldsG0, str_beq]
  unfold sameB
  by_cases a : x.tm = y.tm
  · rw [if_pos (by simp [a])]
    by_cases b : x.kd = y.kd
    · rw [if_pos (by simp [b])]
      by_cases c : x.tx = y.tx <;> simp [a, b, c]
    · rw [if_neg (by simp [b])]
      simp [b]
  · rw [if_neg (by simp; omega)]
    simp [a]
theorem itq_neq (x y : It) (w : World) : (binOp .neq 47 (.agg x.cells) (.agg y.cells)).run Try.prog w = .ok (.bool (!sameB x y)) w := by
  rw [run_neq_struct, itq_eq x y w 9998]
  rfl
theorem itq_guard (w : World) (op : BinOp) (x y : Operand) (a b : Array Value) : (eqGuard op 47 x y (.agg a) (.agg b)).run Try.prog w = .ok () w := run_eqGuard_agg w _ _ _ _ _ _ (by kernel_rfl)

def setIt (s t : Nat) : It := ⟨t, 2, le 1 s⟩
def itemO (s t : Nat) : It × Bool := if Qu.told s = true then (setIt s t, true) else (itNil, false)
def Items (s t : Nat) (w : World) (e : Ending) (w' : World) : Prop := e = .returned (.tuple #[.agg (itemO s t).1.cells, .bool (itemO s t).2]) ∧ Below w.heap.size w w'
set_option maxHeartbeats 1000000 in
theorem item_any (s t : Nat) (w : World) (hs : s < 18446744073709551616) :
    Calls Try.prog 29 #[.int .u64 (s : Int), .int .u64 (t : Int)] w (Items s t w) := by
  have hT := fun W => Qu.told_any s W hs
  unfold Items itemO
  cases ht : Qu.told s
  · rw [ht] at hT
    rw [if_neg (by simp)]
    dsimp only
    go_enter Try.func29, Try.ntmps29
    go_wp2_with (first
      | (go_at_call 54; (refine (hT _).mono ?_); rintro e w3 ⟨rfl, rfl⟩)
      | fail)
    refine bodyPost_ret (results_row_tmp rfl _ w.heap.size 47 _ (0, 0) _ rfl (heap_alloc_new w _) Try.underlying47 rfl (by rw [it_size]; rfl)) rfl ⟨rfl, (Below.refl _ _).alloc (Nat.le_refl _) _⟩
  · rw [ht] at hT
    rw [if_pos (by simp)]
    dsimp only
    obtain ⟨W1, hW1⟩ : ∃ W1, W1 = w.alloc (.cells #[.int .u64 0, .int .i64 0, .string ⟨#[]⟩] 47) := ⟨_, rfl⟩
    have hb1 : Below w.heap.size w W1 := by rw [hW1]; exact (Below.refl _ _).alloc (Nat.le_refl _) _
    have hr1 := heap_alloc_new w (.cells #[.int .u64 0, .int .i64 0, .string ⟨#[]⟩] 47)
    rw [← hW1] at hr1
    have hs1 : W1.heap.size = w.heap.size + 1 := by rw [hW1]; simp
    have hb2 : Below W1.heap.size W1 (W1.alloc (.cells #[.int .u64 (s : Int)] 22)) := (Below.refl _ _).alloc (Nat.le_refl _) _
    have hr2 := row_below hr1 hb2
    have hP := put_good none (some ⟨W1.heap.size, 0, none⟩) 0 0 1 1 [] [s] 1 _ Rd.nil_ (Qu.rd_lit W1 (cs := #[.int .u64 (s : Int)]) rfl rfl (by decide) 22) (by decide) (by decide) (by decide)
    have hb3 := hb1.trans (hb2.mono hb1.size)
    rw [show ((1 : Nat) : Int) = 1 from rfl, hs1] at hP
    have HP := Lib.hid hP
    clear hP
    go_enter Try.func29, Try.ntmps29
    go_wp2_with (first
      | (go_at_call 54; (refine (hT _).mono ?_); rintro e w3 ⟨rfl, rfl⟩)
      | (go_at_call 55; rw [← hW1]; refine HP.out.mono ?_; rintro e w2 ⟨v, rfl, ho, hb4⟩
         have hr3 := row_below hr2 hb4
         have hb5 := hb3.trans (hb4.mono hb3.size)
         obtain ⟨A, c, rfl⟩ : ∃ A c, v = .slice A 1 c := ownsRow_form ho
         have hR : Rd w2 w2.heap.size 1 A 1 c (u8s (le 1 s)) := by simpa [puts] using ownsRow_rd ho
         have f0 := frozen_of_row _ w.heap.size 0 _ _ hr3
         have f1 := frozen_of_row _ w.heap.size 1 _ _ hr3
         have f2 := frozen_of_row _ w.heap.size 2 _ _ hr3
         have c0 : w2.cell? ⟨w.heap.size, 0, none⟩ = some (.int .u64 0) := cell_of_row _ w.heap.size 0 _ _ _ hr3
         have c1 : w2.cell? ⟨w.heap.size, 1, none⟩ = some (.int .i64 0) := cell_of_row _ w.heap.size 1 _ _ _ hr3
         have c2 : w2.cell? ⟨w.heap.size, 2, none⟩ = some (.string ⟨#[]⟩) := cell_of_row _ w.heap.size 2 _ _ _ hr3
         have HB5 := Lib.hid hb5
         have HR3 := Lib.hid hr3
         clear hW1 hb1 hr1 hs1 hb2 hr2 hb3 HP hb4 ho hr3 hb5)
      | (refine wpL_str (o := ⟨some 14, _, _, _, _, _⟩) (A := A) (n := 1) (c := c) (l := le 1 s) rfl (.tmp 13) 88 9 rfl Try.underlying88 Try.underlying5 Try.underlying9 rfl hR ?_)
      | fail)
    have hr4 := heap_setCell_same _ w.heap.size 2 _ _ (.string (str (le 1 s))) (heap_setCell_same _ w.heap.size 1 _ _ (.int .i64 2) (heap_setCell_same w2 w.heap.size 0 _ _ (.int .u64 (t : Int)) HR3.out))
    refine bodyPost_ret (results_row_tmp rfl _ w.heap.size 47 _ (0, 0) _ rfl hr4 Try.underlying47 rfl (by rw [it_size]; rfl)) rfl ⟨rfl, ((HB5.out.setCell (Nat.le_refl _) _).setCell (Nat.le_refl _) _).setCell (Nat.le_refl _) _⟩
/-- Bytes of a string in memory of their own. -/
theorem wpL_bytes {P : Program} {w : World} {ops : Array Oper} {rest : List Oper} {o : Oper} {a : Act} {Q : Exit → Act → World → Prop} (hgd : o.guard = none) (x : Operand) (tx t : TypeId) (ho : o.op = .convert tx t x)
    {e : TypeId} (hs : P.underlying tx = some .string) (ht : P.underlying t = some (.slice e)) (he : P.underlying e = some (.int .u8)) {l : List UInt8} (hx : a.eval x = .string (str l)) (hlm : l.length ≤ maxLen)
    (h : ∀ (W : World) (b cap S : Nat) (R : List Value), Hid (b = w.heap.size) → W.heap[b]? = some (.cells (u8s l ++ R).toArray e (S, S + 1)) → Hid (l.length ≤ S) → Hid (l.length ≤ cap ∧ cap ≤ maxLen) → Below w.heap.size w W → Hid (W.heap.size = b + 1) → wpList P ops Q rest (a.put o.dst (.slice (some ⟨b, 0, none⟩) l.length cap)) W) : wpList P ops Q (o :: rest) a w := by
  have hrun := run_bytes_of_string w tx t e (str l) hs ht he
  have hge := grownCap_ge w (str l).size 0 e
  have hle := grownCap_le_maxLen w (str l).size 0 e hlm
  have hrow : bytesRow (str l) (grownCap w (str l).size 0 e) = (u8s l ++ List.replicate (grownCap w (str l).size 0 e - (str l).size) (Value.int .u8 0)).toArray := by
    unfold bytesRow
    apply Array.ext'
    simp only [str, u8s, Array.toList_append, Array.toList_map, Array.toList_replicate]
    rfl
  have hge2 : l.length ≤ grownCap w (str l).size 0 e := hge
  have hsz : l.length ≤ (bytesRow (str l) (grownCap w (str l).size 0 e)).size := by rw [hrow]; simp [u8s_len]
  refine wpList_plain hgd fun K hK => ?_
  unfold Oper.wp
  simp only [execOp, ho, hx, Sem.run_bind, hrun, Result.andThen_ok, Sem.run_pure]
  refine hK _ _ (h _ w.heap.size (grownCap w (str l).size 0 e) (bytesRow (str l) (grownCap w (str l).size 0 e)).size (List.replicate (grownCap w (str l).size 0 e - (str l).size) (Value.int .u8 0)) (Lib.hid rfl) ?_ (Lib.hid hsz) (Lib.hid ⟨hge, hle⟩) ?_ (Lib.hid (by simp)))
  · exact (heap_alloc_new w.drew _).trans (congrArg (fun z => some (Obj.cells z e ((bytesRow (str l) (grownCap w (str l).size 0 e)).size, (bytesRow (str l) (grownCap w (str l).size 0 e)).size + 1))) hrow)
  · exact undrew ((Below.refl w.drew.heap.size w.drew).alloc (Nat.le_refl _) _)

theorem rd_bytes {W : World} {b cap : Nat} {l : List UInt8} {R : List Value} {e : TypeId} {fr : Nat × Nat} (hr : W.heap[b]? = some (.cells (u8s l ++ R).toArray e fr)) (hc : l.length ≤ cap ∧ cap ≤ maxLen) : Rd W W.heap.size 1 (some ⟨b, 0, none⟩) l.length cap (u8s l) := by
  refine ⟨hc.1, hc.2, by rw [u8s_len, Nat.mul_one], fun _ => ⟨b, 0, rfl, (Array.getElem?_eq_some_iff.1 hr).1, fun j u hu => ?_⟩⟩
  rw [cell_of_row _ b (0 + j) _ _ _ hr, Nat.zero_add, List.getElem?_toArray, List.getElem?_append_left (List.getElem?_eq_some_iff.1 hu).1]
  exact hu
theorem read_any (A : Option Addr) (n c : Nat) (l : List UInt8) (w : World) (h : Rd w w.heap.size 1 A n c (u8s l)) (hn : n ≤ 1000000) :
    Calls Try.prog 52 #[.slice A n c] w fun e w' => ∃ g, e = .returned (.pointer (some ⟨g, 0, none⟩)) ∧ w.heap.size ≤ g ∧ Rdr w' g ⟨l, false⟩ ∧ Below w.heap.size w w' := by
  have hln : l.length = n := by have := h.len; rwa [u8s_len] at this
  have HL := Lib.hid hln
  clear hln
  go_enter Try.func52, Try.ntmps52
  go_wp2_with (refine wpL_str (o := ⟨some 4, _, _, _, _, _⟩) (A := A) (n := n) (c := c) (l := l) rfl (.tmp 3) 88 9 rfl Try.underlying88 Try.underlying5 Try.underlying9 rfl h ?_)
  go_ret
  refine ⟨w.heap.size, rfl, Nat.le_refl _, ⟨heap_alloc_new w _, ?_⟩, (Below.refl _ _).alloc (Nat.le_refl _) _⟩
  rw [HL.out]; exact hn
theorem grown_hi {w w' : World} {B g : Nat} (h : w.grownBy w' (some g)) (hg : B ≤ g) (hB : B ≤ w.heap.size) : Below B w w' := ⟨h.os, h.tape, h.output, h.size, fun i hi => h.block i (by omega) (by intro e; cases e; omega)⟩
/-- The number that the first byte of a text is; 0 of none. -/
def headN (l : List UInt8) : Nat := ((⟨l.take 1, false⟩ : St).num 1).1
def ofO (x : It) : Nat × Bool := if Qu.told (headN x.tx) = true ∧ sameB (setIt (headN x.tx) x.tm) x = true then (headN x.tx, true) else (0, false)
theorem headN_lt (l : List UInt8) : headN l < 18446744073709551616 := by
  match l with
  | [] => decide
  | b :: l =>
    have : headN (b :: l) = b.toNat := by simp [headN, St.num, St.next, unle]
    have := b.toNat_lt
    omega
def Ofs (x : It) (w : World) (e : Ending) (w' : World) : Prop := e = .returned (.tuple #[.int .u64 ((ofO x).1 : Int), .bool (ofO x).2]) ∧ Below w.heap.size w w'
set_option maxHeartbeats 2000000 in
theorem of_any (x : It) (w : World) : Calls Try.prog 27 #[.agg x.cells] w (Ofs x w) := by
  obtain ⟨t, k, tx⟩ := x
  have hI := fun W => item_any (headN tx) t W (headN_lt tx)
  have hN := headN_lt tx
  unfold Ofs ofO Items itemO at *
  dsimp only at *
  obtain ⟨l, hl⟩ : ∃ l, l = tx.take 1 := ⟨_, rfl⟩
  have hL : l.length ≤ 1 := by rw [hl, List.length_take]; omega
  have hln : l.length = min tx.length 1 := by rw [hl, List.length_take]; omega
  have hst : ((⟨l, false⟩ : St).num 1).1 = headN tx := by rw [hl]; rfl
  have hx : (str tx).extract 0 l.length = str l := by rw [str_take, hln, hl]; congr 1; rw [List.take_eq_take_iff]; omega
  have hs : (str tx).size = tx.length := rfl
  have hmi : min (tx.length : Int) 1 = (l.length : Int) := by omega
  have hle : (l.length : Int) ≤ (tx.length : Int) := by omega
  generalize headN tx = s at *
  obtain ⟨W1, hW1⟩ : ∃ W1, W1 = w.alloc (.cells #[.int .u64 (t : Int), .int .i64 k, .string (str tx)] 47) := ⟨_, rfl⟩
  have hb1 : Below w.heap.size w W1 := by rw [hW1]; exact (Below.refl _ _).alloc (Nat.le_refl _) _
  have hr1 := heap_alloc_new w (.cells #[.int .u64 (t : Int), .int .i64 k, .string (str tx)] 47)
  rw [← hW1] at hr1
  have HW1 := Lib.hid hW1
  have HB1 := Lib.hid hb1
  have HR1 := Lib.hid hr1
  have HST := Lib.hid hst
  have HLN := Lib.hid hL
  clear hW1 hb1 hr1 hst hL hln hl
  obtain ⟨ans, ha⟩ : ∃ ans, ans = (if Qu.told s = true ∧ sameB (setIt s t) ⟨t, k, tx⟩ = true then (s, true) else (0, false)) := ⟨_, rfl⟩
  rw [← ha]
  have HA := Lib.hid ha
  clear ha
  unfold It.cells
  dsimp only
  go_enter Try.func27, Try.ntmps27
  go_wp2_with (first
    | (refine wpL_bytes (o := ⟨some 16, _, _, _, _, _⟩) rfl (.tmp 15) _ _ rfl Try.underlying9 Try.underlying88 Try.underlying5 (l := l) rfl (by unfold maxLen; have := HLN.out; omega) ?_; intro W2 b9 cap S R hb9 hr9 hS hcap hb2 hz2
       rw [← HW1.out] at hb2
       have HR9 := Lib.hid hr9
       have HB2 := Lib.hid hb2
       clear hr9 hb2 hb9 hz2)
    | (go_at_call 52
       refine (read_any _ _ _ l _ (rd_bytes HR9.out hcap.out) (by have := HLN.out; omega)).mono ?_; rintro e w3 ⟨g, rfl, hg, hR, hb3⟩
       have HRD := Lib.hid hR
       have hbb := HB1.out.trans (HB2.out.mono HB1.out.size)
       have HRR := Lib.hid (row_below (row_below HR1.out HB2.out) hb3)
       have HBB := Lib.hid (hbb.trans (hb3.mono hbb.size))
       have HG := Lib.hid hg
       have HZ := Lib.hid (Nat.lt_of_lt_of_le (Array.getElem?_eq_some_iff.1 (row_below HR1.out HB2.out)).1 hg)
       clear hR hg hb3 hbb)
    | fail)
  refine (num_any g ⟨l, false⟩ 1 _ HRD.out (by decide) (by decide)).mono ?_
  rw [HST.out]
  rintro e w4 ⟨rfl, _, hg4⟩
  have hb4 := HBB.out.trans (grown_hi hg4 (Nat.le_of_lt HZ.out) HBB.out.size)
  have hr4 := (hg4.block _ (Array.getElem?_eq_some_iff.1 HRR.out).1 (by intro e; cases e; exact absurd HZ.out (Nat.lt_irrefl _))).trans HRR.out
  have q0 : w4.cell? ⟨w.heap.size, 0, none⟩ = some (.int .u64 (t : Int)) := cell_of_row w4 _ 0 _ _ _ hr4
  have HB4 := Lib.hid hb4
  have HR4 := Lib.hid hr4
  clear hb4 hr4 hg4 HRD HRR HBB HG HZ HST HW1 HB1 HR1 HB2 HR9 hx hs hmi hle hS hcap HLN
  cases ht : Qu.told s
  · rw [ht] at hI
    rw [ht] at HA
    simp only [Bool.false_eq_true, if_false, false_and] at hI HA
    dsimp only [It.cells, itNil] at hI
    have HI := Lib.hid (hI w4)
    clear hI
    go_wp2_with (first
      | (go_at_call 29; refine HI.out.mono ?_; rintro e w5 ⟨rfl, hb5⟩
         have HB5 := Lib.hid (HB4.out.trans (hb5.mono HB4.out.size))
         clear hb5 q0)
      | fail)
    go_ret2
    rw [HA.out]
    exact ⟨rfl, HB5.out.alloc HB5.out.size _⟩
  · rw [ht] at hI
    rw [ht] at HA
    simp only [if_true, true_and] at hI HA
    dsimp only [It.cells, setIt] at hI
    have HI := Lib.hid (hI w4)
    clear hI
    have HA2 : Hid (ans = if (decide (2 = k) && decide (le 1 s = tx)) = true then (s, true) else (0, false)) := Lib.hid (by
      have := HA.out
      simp only [sameB, setIt, decide_true, Bool.true_and] at this
      exact this)
    clear HA
    go_wp2_with (first
      | (go_at_call 29; refine HI.out.mono ?_; rintro e w5 ⟨rfl, hb5⟩
         have HB5 := Lib.hid (HB4.out.trans (hb5.mono HB4.out.size))
         have hr6 := row_below (row_below HR4.out hb5) (w' := w5.alloc (.cells #[.int .u64 (t : Int), .int .i64 2, .string (str (le 1 s))] 47)) ((Below.refl _ _).alloc (Nat.le_refl _) _)
         have y0 := cell_of_row _ w.heap.size 0 _ _ _ hr6
         have y1 := cell_of_row _ w.heap.size 1 _ _ _ hr6
         have y2 := cell_of_row _ w.heap.size 2 _ _ _ hr6
         rw [show (#[Value.int .u64 (t : Int), .int .i64 k, .string (str tx)] : Array Value)[0]? = some (.int .u64 (t : Int)) from rfl] at y0
         rw [show (#[Value.int .u64 (t : Int), .int .i64 k, .string (str tx)] : Array Value)[1]? = some (.int .i64 k) from rfl] at y1
         rw [show (#[Value.int .u64 (t : Int), .int .i64 k, .string (str tx)] : Array Value)[2]? = some (.string (str tx)) from rfl] at y2
         clear hb5 hr6 q0 HR4 HB4 HI)
      | fail)
    all_goals go_ret2
    all_goals refine ⟨?_, HB5.out.alloc HB5.out.size _⟩
    all_goals rw [HA2.out]
    all_goals first
      | (rename_i h1 h2; have e := str_inj h2; rw [if_pos (show (decide (2 = k) && decide (le 1 s = tx)) = true by simp [h1, e])]; rfl)
      | (rename_i h1; have e : ¬ (2 = k) := h1; rw [if_neg (show ¬ (decide (2 = k) && decide (le 1 s = tx)) = true by simp [e])]; rfl)
      | (rename_i h1 h2; have e : ¬ le 1 s = tx := fun e => h2 (by rw [e]); rw [if_neg (show ¬ (decide (2 = k) && decide (le 1 s = tx)) = true by simp [e])]; rfl)
end Go.Proofs.Ytlpckhjmbfeegaa

/- Blocks as values; a block is read. -/
import Derived.Test.YtgbbbemedncdoaaGreatDoorStoM
namespace Go.Proofs.YtgbbbemedncdoaaGreatDoor
open Go.RowKit
set_option maxRecDepth 20000

def blkv (l : List UInt8) : Value := .agg (u8s l).toArray
def Zb : List UInt8 := List.replicate 8 0
theorem size_blk : (Tryz.prog.info? 116).map (·.size) = some 8 := by kernel_rfl
theorem zero_blk (w : World) : (zeroValue 116).run Tryz.prog w = .ok (blkv Zb) w := by kernel_rfl
section
variable {w : World} {ops : Array Oper} {rest : List Oper} {o : Oper} {a : Act} {Q : Exit → Act → World → Prop}
theorem wpL_bnew (hgd : o.guard = none) (ho : o.op = .alloc 116)
    (hk : ∀ (W : World) (b : Nat), NewR w 116 (u8s Zb) W b → wpList Tryz.prog ops Q rest (a.put o.dst (.pointer (some ⟨b, 0, none⟩))) W) : wpList Tryz.prog ops Q (o :: rest) a w := by
  refine wpList_plain hgd fun K hK => ?_
  have hr : (Instr.alloc 116 true (.tuple #[])).run Tryz.prog w = .ok (.pointer (some ⟨w.heap.size, 0, none⟩)) (w.alloc (.cells (u8s Zb).toArray 116)) := by
    have h0 : (newVar 116 (blkv Zb)).run Tryz.prog w = .ok ⟨w.heap.size, 0, none⟩ (w.alloc (.cells (u8s Zb).toArray 116)) := run_newVar 116 (blkv Zb)
    simp only [Instr.alloc, Sem.run_bind, zero_blk, Result.andThen_ok, h0, Sem.run_pure]
  unfold Oper.wp
  simp only [execOp, ho, Sem.run_bind, hr, Result.andThen_ok, Sem.run_pure]
  exact hK _ _ (hk _ _ (newR w _ _))
theorem loads_blk {b : Nat} {e : TypeId} {fr : Nat × Nat} {l : List UInt8} (hr : w.heap[b]? = some (.cells (u8s l).toArray e fr)) (hl : l.length = 8) : (Instr.loadAt 116 (.pointer (some ⟨b, 0, none⟩))).run Tryz.prog w = .ok (blkv l) w := by
  simp only [Instr.loadAt, Instr.sureAddr, Sem.run_bind, Sem.run_pure, Result.andThen_ok]
  exact run_loadVar_row w b e _ _ fr _ hr Tryz.underlying116 rfl (by rw [size_blk]; simp [u8s_len, hl])
theorem wpL_bload (hw : Region.wanted o (yielded ops a.tmps) = true) (x : Operand) (ho : o.op = .load 116 x) {b : Nat} {e : TypeId} {fr : Nat × Nat} {l : List UInt8} (hx : a.eval x = .pointer (some ⟨b, 0, none⟩)) (hr : w.heap[b]? = some (.cells (u8s l).toArray e fr)) (hl : l.length = 8)
    (hk : wpList Tryz.prog ops Q rest (a.put o.dst (blkv l)) w) : wpList Tryz.prog ops Q (o :: rest) a w :=
  wpL_val hw _ (by have hrun := loads_blk hr hl; simp only [execOp, ho, hx, Sem.run_bind, hrun, Result.andThen_ok, Sem.run_pure]) hk
theorem wpL_bstore (hgd : o.guard = none) (x y : Operand) (ho : o.op = .store 116 x y) {b : Nat} {e : TypeId} {l k : List UInt8} (hx : a.eval x = .pointer (some ⟨b, 0, none⟩)) (hy : a.eval y = blkv k) (hr : w.heap[b]? = some (.cells (u8s l).toArray e (0, 0))) (hl : l.length = 8) (hkl : k.length = 8)
    (hk : ∀ W : World, Hid (W.heap[b]? = some (.cells (u8s k).toArray e (0, 0))) → w.grownBy W (some b) → Hid (W.heap.size = w.heap.size) → wpList Tryz.prog ops Q rest (a.put o.dst undef) W) : wpList Tryz.prog ops Q (o :: rest) a w := by
  refine wpList_plain hgd fun K hK => ?_
  have hrun : (Instr.storeAt 116 (.pointer (some ⟨b, 0, none⟩)) (blkv k)).run Tryz.prog w = .ok () (w.setRow b (u8s k).toArray) := by
    simp only [Instr.storeAt, Instr.sureAddr, Sem.run_bind, Sem.run_pure, Result.andThen_ok]
    exact run_storeVar_row w b e _ _ _ hr (by rw [size_blk]; simp [u8s_len, hkl]) (by simp [u8s_len, hl, hkl]) (by
      rw [Array.all_eq_true_iff_forall_mem]
      intro x hx
      exact u8s_one k x (by simpa using hx))
  unfold Oper.wp
  simp only [execOp, ho, hx, hy, Sem.run_bind, hrun, Result.andThen_ok, Sem.run_pure]
  exact hK _ _ (hk _ (Lib.hid (setRow_heap w b _ _ e _ hr)) ⟨rfl, rfl, rfl, by simp, fun k _ hk => setRow_other w b k _ (fun e => hk (by rw [e]))⟩ (Lib.hid (by simp)))
end
/-- What a block reads as, on a device. -/
def Dv.blk (d : Dv) (first : Int) (f : SaysS) (n : Int) : List UInt8 := match f n with
  | some at_ => (d.seen (first + at_)).take 8
  | none => Zb
theorem zb_len : Zb.length = 8 := rfl
theorem Dv.blk_len {d : Dv} (h : d.Ok) (first : Int) (f : SaysS) (n : Int) : (d.blk first f n).length = 8 := by
  unfold Dv.blk
  cases f n with
  | none => rfl
  | some x => show ((d.seen (first + x)).take 8).length = 8; rw [List.length_take, Dv.seen_len h]; rfl
def Reaches (d : Dv) (first : Int) (f : SaysS) : Prop := ∀ n x, f n = some x → 0 ≤ first + x ∧ first + x + 1 ≤ d.n ∧ 0 ≤ x ∧ x ≤ 65536

theorem Dv.bytes_one (d : Dv) (x : Int) : d.bytes x 1 = d.seen x := by
  simp only [Dv.bytes]; simp
theorem zero_int (w : World) : (zeroValue 3).run Tryz.prog w = .ok (.int .i64 0) w := by kernel_rfl
section
variable {P : Program} {w : World} {ops : Array Oper} {rest : List Oper} {o : Oper} {a : Act} {Q : Exit → Act → World → Prop}
theorem wpL_slook (hgd : o.guard = none) (x y : Operand) (ok : Bool) {t : TypeId} (ho : o.op = .lookup t x y ok) {m k v : Value} (hx : a.eval x = m) (hy : a.eval y = k) (hrun : (Instr.lookup t m k ok).run P w = .ok v w) (h : wpList P ops Q rest (a.put o.dst v) w) : wpList P ops Q (o :: rest) a w := by
  refine wpList_plain hgd fun K hK => ?_
  unfold Oper.wp
  simp only [execOp, ho, hx, hy, Sem.run_bind, hrun, Result.andThen_ok, Sem.run_pure]
  exact hK _ _ h
end
/-- What the device's read yields in all its ways: its bytes, copied over noughts, are r. -/
def RdAs (w : World) (g : Nat) (x : Int) (k er : Int) (r : List UInt8) : Prop := Calls Tryz.prog 68 #[.pointer (some ⟨g, 0, none⟩), .int .i64 x, .int .i64 k] w fun e w' => ∃ A m c l, e = .returned (.tuple #[.slice A m c, .int .i64 er]) ∧ Rd w' w'.heap.size 1 A m c (u8s l) ∧ Below w.heap.size w w' ∧ (u8s (l.take (min m 8)) ++ ((u8s Zb).toArray).toList.drop (min m 8)) = u8s r
set_option maxHeartbeats 4000000 in
theorem sread_core {W0 : World} {g T S bn bs kn : Nat} {v : Sv} {fn : SaysS} (hrow : Srow W0 S (some ⟨g, 0, none⟩) (some ⟨T, 0, none⟩) (some bn) (some bs) v) (hnow : St8 W0 bn kn fn) (n : Nat) (hn : n < 4294967296) (x : Int) (b : Bool) (e1 : (fn n).getD 0 = x) (e2 : (fn n).isSome = b) (h3 : 0 ≤ x) (h4 : x ≤ 65536) (hf1 : -65536 ≤ v.first) (hf2 : v.first ≤ 65536)
    (er : Int) (s8 : List UInt8) (hs8 : s8.length = 8) (hrd : ∀ W, Below W0.heap.size W0 W → RdAs W g (v.first + x) (if b then 1 else 0) er s8) :
    Calls Tryz.prog 58 #[.pointer (some ⟨S, 0, none⟩), .int .u32 (n : Int)] W0 fun e w' => e = .returned (.tuple #[blkv s8, .int .i64 er]) ∧ Below W0.heap.size W0 w' := by
  have hkey : KeyS (n : Int) := ⟨by omega, by omega⟩
  have HRD := Lib.hid hrd
  have HR := Lib.hid hrow
  have HM := Lib.hid hnow
  clear hrd hrow hnow
  cases b
  ·
    go_enter Tryz.func58, Tryz.ntmps58
    go_wp2_with (first
      | (refine wpL_bnew (o := ⟨some 4, _, _, _, _, _⟩) rfl rfl ?_; intro W1 b4 hN; obtain ⟨hb4, hr4, hl4, hz4⟩ := hN
         have hb4w : W0.heap.size ≤ b4 := by first | omega | (have := hb4.out; omega) | (have := hb4; simp at this; omega)
         have R1 := Lib.hid (HR.out.below hl4)
         have M1 := Lib.hid (HM.out.kept (only_of_below hl4 none) (fun e => by cases e))
         have c22 := R1.out.c22
         have c0 := R1.out.c0
         have c2 := R1.out.c2
         have HLK := Lib.hid ((M1.out.lookOk Tryz.underlying23 Tryz.underlying70 (zero_int W1) ⟨by decide, by decide⟩ (n : Int) hkey).1)
         clear hb4)
      | (refine wpL_slook rfl (.tmp 16) (.tmp 17) true rfl rfl rfl HLK.out ?_)
      | (refine wpL_bnew (o := ⟨some 9, _, _, _, _, _⟩) rfl rfl ?_; intro W b9 hN; obtain ⟨hb9, hr9, hl9, hz9⟩ := hN
         have HR2 := Lib.hid (R1.out.below hl9)
         have R4 := Lib.hid (row_below hr4.out hl9)
         have HB := Lib.hid (hl4.trans (hl9.mono hl4.size))
         have hSW : S < W.heap.size := HR2.out.lt
         have h49 : b4 ≠ b9 := by have := (Array.getElem?_eq_some_iff.1 hr4.out).1; have := hb9.out; omega
         have hW04 : W0.heap.size ≤ b4 := hb4w
         have hW09 : W0.heap.size ≤ b9 := by have := hb9.out; have := hl4.size; omega)
      | fail)
    clear hr4 hl4 hz4 hl9 hz9 R1 M1 HLK c22 c0 c2 HR HM
    refine wp_low W.heap.size [([0, 1, 2, 3, 4, 5, 6, 7, 8, 9, 10], 11)] [12, 13, 14, 15, 16] (by kernel_rfl) (by kernel_rfl) (fun d _ _ _ _ h => by cases d <;> exact h) (Nat.le_refl _) fun wd hbd => ?_
    intro q hq
    have d0 := fun z => kept (hq z) HR2.out.c0 hSW
    have d2 := fun z => kept (hq z) HR2.out.c2 hSW
    simp only [pickI, Option.toList_some, List.cons_append, List.nil_append, List.getElem?_toArray, List.getElem?_cons_succ, List.getElem?_cons_zero]
    try go_frame
    go_big_quiet_step (fail)
    go_big_quiet_step (fail)
    go_big_quiet_step (fail)
    go_big_quiet_step (fail)
    go_big_quiet_step (fail)
    go_big_quiet_step (fail)
    go_big_quiet_step (fail)
    go_big_quiet_step (fail)
    go_big_quiet_step (fail)
    go_big_quiet_step (fail)
    go_big_quiet_step (fail)
    refine wpQuiet_nil ?_
    clear hq q d0 d2
    refine seg_op (by simp only [List.getElem?_toArray, List.getElem?_cons_succ, List.getElem?_cons_zero]; rfl) fun K hK => ?_
    go_simp
    refine (HRD.out _ (HB.out.trans (hbd.mono HB.out.size))).mono ?_
    rintro e v0 ⟨A1, m1, c1, l1, rfl, x1, bv0, e6⟩
    have X1 := Lib.hid x1
    have E6 := Lib.hid e6
    have zv0 := hbd.trans (bv0.mono hbd.size)
    clear x1 e6 bv0
    refine hK.out _ _ (seg_keep zv0 ?_)
    clear hK K
    intro q hq
    have d0 := fun z => kept (hq z) HR2.out.c0 hSW
    have d2 := fun z => kept (hq z) HR2.out.c2 hSW
    simp only [pickI, Option.toList_some, List.cons_append, List.nil_append, List.getElem?_toArray, List.getElem?_cons_succ, List.getElem?_cons_zero]
    try go_frame
    go_big_quiet_step (fail)
    go_big_quiet_step (fail)
    go_big_quiet_step (fail)
    go_big_quiet_step (fail)
    go_big_quiet_step (fail)
    refine wpQuiet_nil ?_
    clear hq q d0 d2
    have K4 := Lib.hid (below_row zv0 R4.out (Array.getElem?_eq_some_iff.1 R4.out).1)
    have K9 := Lib.hid (below_row zv0 hr9.out (Array.getElem?_eq_some_iff.1 hr9.out).1)
    have HB2 := Lib.hid (HB.out.trans (zv0.mono HB.out.size))
    clear zv0 R4 hr9 HB HR2 hbd
    go_wp2_with (first
      | (refine wpL_cpy rfl (.tmp 37) (.tmp 38) rfl rfl rfl K9.out X1.out (by first | decide | simp [u8s_len, zb_len] | (simp [u8s_len]; decide)) ?_; intro W6 hr6 hg6 hz6
         rw [E6.out] at hr6
         have K6 := Lib.hid hr6
         have K46 := Lib.hid (row_far K4.out hg6 (fun e => h49 (Option.some.inj e)))
         have HB6 := Lib.hid (HB2.out.grown hg6 HB2.out.size (fun k e => by cases e; exact hW09))
         clear hr6 hg6 hz6 K4 K9)
      | (refine wpL_bload rfl (.tmp 9) rfl rfl K6.out hs8 ?_)
      | (refine wpL_bstore rfl (.tmp 4) (.tmp 40) rfl rfl rfl K46.out rfl hs8 ?_; intro W7 hr7 hg7 hz7
         have K7 := hr7.out
         have HB7 := Lib.hid (HB6.out.grown hg7 HB6.out.size (fun k e => by cases e; exact hW04))
         clear hr7)
      | (refine wpL_bload rfl (.tmp 4) rfl rfl K7 hs8 ?_)
      | fail)
    refine bodyPost_ret (results_cell_tmp (fn := Tryz.f58) rfl _ b4 116 _ (0, 0) _ rfl K7 Tryz.underlying116 rfl (by rw [size_blk]; simp [u8s_len, hs8])) rfl ⟨rfl, HB7.out⟩
  ·
    go_enter Tryz.func58, Tryz.ntmps58
    go_wp2_with (first
      | (refine wpL_bnew (o := ⟨some 4, _, _, _, _, _⟩) rfl rfl ?_; intro W1 b4 hN; obtain ⟨hb4, hr4, hl4, hz4⟩ := hN
         have hb4w : W0.heap.size ≤ b4 := by first | omega | (have := hb4.out; omega) | (have := hb4; simp at this; omega)
         have R1 := Lib.hid (HR.out.below hl4)
         have M1 := Lib.hid (HM.out.kept (only_of_below hl4 none) (fun e => by cases e))
         have c22 := R1.out.c22
         have c0 := R1.out.c0
         have c2 := R1.out.c2
         have HLK := Lib.hid ((M1.out.lookOk Tryz.underlying23 Tryz.underlying70 (zero_int W1) ⟨by decide, by decide⟩ (n : Int) hkey).1)
         clear hb4)
      | (refine wpL_slook rfl (.tmp 16) (.tmp 17) true rfl rfl rfl HLK.out ?_)
      | (refine wpL_bnew (o := ⟨some 9, _, _, _, _, _⟩) rfl rfl ?_; intro W b9 hN; obtain ⟨hb9, hr9, hl9, hz9⟩ := hN
         have HR2 := Lib.hid (R1.out.below hl9)
         have R4 := Lib.hid (row_below hr4.out hl9)
         have HB := Lib.hid (hl4.trans (hl9.mono hl4.size))
         have hSW : S < W.heap.size := HR2.out.lt
         have h49 : b4 ≠ b9 := by have := (Array.getElem?_eq_some_iff.1 hr4.out).1; have := hb9.out; omega
         have hW04 : W0.heap.size ≤ b4 := hb4w
         have hW09 : W0.heap.size ≤ b9 := by have := hb9.out; have := hl4.size; omega)
      | fail)
    clear hr4 hl4 hz4 hl9 hz9 R1 M1 HLK c22 c0 c2 HR HM
    refine wp_low W.heap.size [([0, 1, 2, 3, 4, 5, 6, 7, 8, 9, 10], 11)] [12, 13, 14, 15, 16] (by kernel_rfl) (by kernel_rfl) (fun d _ _ _ _ h => by cases d <;> exact h) (Nat.le_refl _) fun wd hbd => ?_
    intro q hq
    have d0 := fun z => kept (hq z) HR2.out.c0 hSW
    have d2 := fun z => kept (hq z) HR2.out.c2 hSW
    simp only [pickI, Option.toList_some, List.cons_append, List.nil_append, List.getElem?_toArray, List.getElem?_cons_succ, List.getElem?_cons_zero]
    try go_frame
    go_big_quiet_step (fail)
    go_big_quiet_step (fail)
    go_big_quiet_step (fail)
    go_big_quiet_step (fail)
    go_big_quiet_step (fail)
    go_big_quiet_step (fail)
    go_big_quiet_step (fail)
    go_big_quiet_step (fail)
    go_big_quiet_step (fail)
    go_big_quiet_step (fail)
    go_big_quiet_step (fail)
    refine wpQuiet_nil ?_
    clear hq q d0 d2
    refine seg_op (by simp only [List.getElem?_toArray, List.getElem?_cons_succ, List.getElem?_cons_zero]; rfl) fun K hK => ?_
    go_simp
    refine (HRD.out _ (HB.out.trans (hbd.mono HB.out.size))).mono ?_
    rintro e v0 ⟨A1, m1, c1, l1, rfl, x1, bv0, e6⟩
    have X1 := Lib.hid x1
    have E6 := Lib.hid e6
    have zv0 := hbd.trans (bv0.mono hbd.size)
    clear x1 e6 bv0
    refine hK.out _ _ (seg_keep zv0 ?_)
    clear hK K
    intro q hq
    have d0 := fun z => kept (hq z) HR2.out.c0 hSW
    have d2 := fun z => kept (hq z) HR2.out.c2 hSW
    simp only [pickI, Option.toList_some, List.cons_append, List.nil_append, List.getElem?_toArray, List.getElem?_cons_succ, List.getElem?_cons_zero]
    try go_frame
    go_big_quiet_step (fail)
    go_big_quiet_step (fail)
    go_big_quiet_step (fail)
    go_big_quiet_step (fail)
    go_big_quiet_step (fail)
    refine wpQuiet_nil ?_
    clear hq q d0 d2
    have K4 := Lib.hid (below_row zv0 R4.out (Array.getElem?_eq_some_iff.1 R4.out).1)
    have K9 := Lib.hid (below_row zv0 hr9.out (Array.getElem?_eq_some_iff.1 hr9.out).1)
    have HB2 := Lib.hid (HB.out.trans (zv0.mono HB.out.size))
    clear zv0 R4 hr9 HB HR2 hbd
    go_wp2_with (first
      | (refine wpL_cpy rfl (.tmp 37) (.tmp 38) rfl rfl rfl K9.out X1.out (by first | decide | simp [u8s_len, zb_len] | (simp [u8s_len]; decide)) ?_; intro W6 hr6 hg6 hz6
         rw [E6.out] at hr6
         have K6 := Lib.hid hr6
         have K46 := Lib.hid (row_far K4.out hg6 (fun e => h49 (Option.some.inj e)))
         have HB6 := Lib.hid (HB2.out.grown hg6 HB2.out.size (fun k e => by cases e; exact hW09))
         clear hr6 hg6 hz6 K4 K9)
      | (refine wpL_bload rfl (.tmp 9) rfl rfl K6.out hs8 ?_)
      | (refine wpL_bstore rfl (.tmp 4) (.tmp 40) rfl rfl rfl K46.out rfl hs8 ?_; intro W7 hr7 hg7 hz7
         have K7 := hr7.out
         have HB7 := Lib.hid (HB6.out.grown hg7 HB6.out.size (fun k e => by cases e; exact hW04))
         clear hr7)
      | (refine wpL_bload rfl (.tmp 4) rfl rfl K7 hs8 ?_)
      | fail)
    refine bodyPost_ret (results_cell_tmp (fn := Tryz.f58) rfl _ b4 116 _ (0, 0) _ rfl K7 Tryz.underlying116 rfl (by rw [size_blk]; simp [u8s_len, hs8])) rfl ⟨rfl, HB7.out⟩

/-- A block that stands is read. -/
theorem sread_some {X : Nat → Prop} {w W0 : World} {B g T S bn bs M kn ks : Nat} {d : Dv} {t : Tv} {v : Sv} {fn fs : SaysS} (h : Slx X w W0 B g T S bn bs M kn ks d t v fn fs) (hd : d.down = false) (n : Nat) (hn : n < 4294967296) (x : Int) (hx : fn n = some x) (hre : Reaches d v.first fn) :
    Calls Tryz.prog 58 #[.pointer (some ⟨S, 0, none⟩), .int .u32 (n : Int)] W0 fun e w' => e = .returned (.tuple #[blkv (d.blk v.first fn n), .int .i64 0]) ∧ Below W0.heap.size W0 w' := by
  obtain ⟨h1, h2, h3, h4⟩ := hre n x hx
  have hdn := h.tlx.ok.n
  refine sread_core h.row h.now n hn x true (by rw [hx]; rfl) (by rw [hx]; rfl) h3 h4 (by omega) (by omega) 0 _ (Dv.blk_len h.tlx.ok _ _ _) fun W hW => ?_
  obtain ⟨N, k1, _⟩ := h.tlx.below hW
  refine (own_read k1 hd (v.first + x) 1 h1 h2).mono ?_
  rintro e w' ⟨v', rfl, hown, hb⟩
  obtain ⟨A1, c1, rfl⟩ := ownsRow_form hown
  refine ⟨A1, _, c1, _, rfl, ownsRow_rd hown, hb, ?_⟩
  rw [Dv.bytes_one]
  have hblk : d.blk v.first fn n = (d.seen (v.first + x)).take 8 := by unfold Dv.blk; rw [hx]
  rw [hblk, show min (1 * 64) 8 = 8 from rfl, show ((u8s Zb).toArray).toList.drop 8 = [] from rfl, List.append_nil]
/-- One that stands nowhere is noughts. -/
theorem sread_none {X : Nat → Prop} {w W0 : World} {B g T S bn bs M kn ks : Nat} {d : Dv} {t : Tv} {v : Sv} {fn fs : SaysS} (h : Slx X w W0 B g T S bn bs M kn ks d t v fn fs) (hd : d.down = false) (n : Nat) (hn : n < 4294967296) (hx : fn n = none) (hf : 0 ≤ v.first) (hfd : v.first ≤ d.n) :
    Calls Tryz.prog 58 #[.pointer (some ⟨S, 0, none⟩), .int .u32 (n : Int)] W0 fun e w' => e = .returned (.tuple #[blkv (d.blk v.first fn n), .int .i64 0]) ∧ Below W0.heap.size W0 w' := by
  have hdn := h.tlx.ok.n
  refine sread_core h.row h.now n hn 0 false (by rw [hx]; rfl) (by rw [hx]; rfl) (by omega) (by omega) (by omega) (by omega) 0 _ (Dv.blk_len h.tlx.ok _ _ _) fun W hW => ?_
  obtain ⟨N, k1, _⟩ := h.tlx.below hW
  refine (own_read k1 hd (v.first + 0) 0 (by omega) (by omega)).mono ?_
  rintro e w' ⟨v', rfl, hown, hb⟩
  obtain ⟨A1, c1, rfl⟩ := ownsRow_form hown
  refine ⟨A1, _, c1, _, rfl, ownsRow_rd hown, hb, ?_⟩
  have hblk : d.blk v.first fn n = Zb := by unfold Dv.blk; rw [hx]
  rw [hblk]
  rfl
/-- Without power nothing is read. -/
theorem sread_down {X : Nat → Prop} {w W0 : World} {B g T S bn bs M kn ks : Nat} {d : Dv} {t : Tv} {v : Sv} {fn fs : SaysS} (h : Slx X w W0 B g T S bn bs M kn ks d t v fn fs) (hd : d.down = true) (n : Nat) (hn : n < 4294967296) (hre : Reaches d v.first fn) (hf : 0 ≤ v.first) (hfd : v.first ≤ d.n) :
    Calls Tryz.prog 58 #[.pointer (some ⟨S, 0, none⟩), .int .u32 (n : Int)] W0 fun e w' => e = .returned (.tuple #[blkv Zb, .int .i64 50]) ∧ Below W0.heap.size W0 w' := by
  have hdn := h.tlx.ok.n
  have hx : 0 ≤ (fn n).getD 0 ∧ (fn n).getD 0 ≤ 65536 := by
    cases hf : fn n with
    | none => exact ⟨by decide, by decide⟩
    | some x => obtain ⟨_, _, h3, h4⟩ := hre n x hf; exact ⟨h3, h4⟩
  refine sread_core h.row h.now n hn _ _ rfl rfl hx.1 hx.2 (by omega) (by omega) _ _ zb_len fun W hW => ?_
  obtain ⟨N, k1, _⟩ := h.tlx.below hW
  refine (own_read_down k1 hd _ _).mono ?_
  rintro e w' ⟨rfl, rfl⟩
  exact ⟨none, 0, 0, [], rfl, Rd.nil_, Below.refl _ _, rfl⟩
end Go.Proofs.YtgbbbemedncdoaaGreatDoor

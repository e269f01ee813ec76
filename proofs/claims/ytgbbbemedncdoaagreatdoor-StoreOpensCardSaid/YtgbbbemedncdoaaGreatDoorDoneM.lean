/- A device's steps: what is counted, kept, settled, seen. A device: what is kept, and what is seen. What stays, and new blocks: all of it stands elsewhere. What is remembered of a client, as numbers. Contracts of done: old, has, with. -/
import Derived.Test.YtgbbbemedncdoaaGreatDoorSecZM
import Derived.Test.YtgbbbemedncdoaaGreatDoorFzeroZM
import Derived.Test.YtgbbbemedncdoaaGreatDoorRefbZM
namespace Go.Proofs.YtgbbbemedncdoaaGreatDoor
set_option maxRecDepth 20000
open Go.RowKit

theorem set_row {w : World} {g : Nat} {cs : Array Value} {e : TypeId} (h : w.heap[g]? = some (.cells cs e (0, 0))) (i : Nat) (u : Value) : (w.setCell ⟨g, i, none⟩ u).heap[g]? = some (.cells (cs.setIfInBounds i u) e (0, 0)) := by
  rw [heap_setCell_same w g i _ _ _ h]
theorem setCell_grows (w : World) (b i : Nat) (u : Value) : w.grownBy (w.setCell ⟨b, i, none⟩ u) (some b) := setCell_by (World.grownBy.refl w (some b)) (p := ⟨b, i, none⟩) rfl u
theorem grownBy_tr {a b c : World} {row : Option Nat} (h : a.grownBy b row) (k : b.grownBy c row) : a.grownBy c row := grownBy_trans h k (.inl rfl)

def Dv.step (d : Dv) : Dv := { d with done := d.done + 1, fuse := d.fuse - 1, down := if d.fuse = 0 then d.down else decide (d.fuse = 1) }
theorem Dv.Ok.step {d : Dv} (h : d.Ok) : d.step.Ok := ⟨h.n, h.S, h.ws, Nat.lt_of_le_of_lt (Nat.sub_le _ _) h.fuse⟩

set_option maxRecDepth 8000 in
theorem step_any {w : World} {B g bs bl k : Nat} {v : Value} {d : Dv} (h : Dev w B g bs bl v k d) (hd : d.done ≤ 1000000000) :
    Calls Tryz.prog 96 #[.pointer (some ⟨g, 0, none⟩)] w fun e w' => e = .returned (.int .i64 (pw d.step.down)) ∧ Dev w' B g bs bl v k d.step ∧ w.grownBy w' (some g) := by
  have c4 := h.c4
  have c5 := h.c5
  have c6 := h.c6
  have f4 := h.free 4
  have f5 := h.free 5
  have f6 := h.free 6
  have hf := h.ok.fuse
  have hdi : (d.done : Int) ≤ 1000000000 := by omega
  have hd0 : (0 : Int) ≤ (d.done : Int) := by omega
  obtain ⟨q, hq⟩ : ∃ q, q = d.fuse - 1 := ⟨_, rfl⟩
  obtain ⟨bb, hb⟩ : ∃ bb, bb = d.step.down := ⟨_, rfl⟩
  have r6 := set_row h.row 6 (.int .i64 ((d.done : Int) + 1))
  rw [← hb]
  by_cases h0 : d.fuse = 0
  · have e0 : (d.fuse : Int) = 0 := by omega
    have hbd : bb = d.down := by rw [hb]; unfold Dv.step; simp [h0]
    have hfin : Dev (w.setCell ⟨g, 6, none⟩ (.int .i64 ((d.done : Int) + 1))) B g bs bl v k d.step := by
      refine h.set ?_ (setCell_grows w g 6 _) rfl rfl h.ok.step
      rw [r6]
      unfold devRow Dv.step
      simp [h0]
    rw [e0] at c5
    have HF := Lib.hid hfin
    have cp : (w.setCell ⟨g, 6, none⟩ (.int .i64 ((d.done : Int) + 1))).cell? ⟨g, 4, none⟩ = some (.bool bb) := by rw [hbd]; rw [cell_of_row _ g 4 _ _ _ r6]; rfl
    have HP := Lib.hid cp
    have HG := Lib.hid (setCell_grows w g 6 (.int .i64 ((d.done : Int) + 1)))
    clear r6 hq hb h0 hbd hfin cp e0 hf hd h
    go_enter Tryz.func96, Tryz.ntmps96
    go_wp2_with (go_at_call 95; refine (power_at g bb _ HP.out).mono ?_; rintro e w1 ⟨rfl, rfl⟩)
    go_ret
    exact ⟨rfl, HF.out, HG.out⟩
  · have w1 : IntKind.u64.wrap ((d.fuse : Int) - 1) = (q : Int) := by rw [IntKind.wrap_u64]; omega
    have d1 : decide ((0 : Int) < (d.fuse : Int)) = true := by simp; omega
    have d2 : decide (0 < d.fuse) = true := by simp; omega
    have d3 : 0 < d.fuse := by omega
    have d4 : ((q : Int) == 0) = bb := by
      rw [hb]
      unfold Dv.step
      simp only [if_neg h0]
      rw [Bool.eq_iff_iff]
      simp
      omega
    have r5 := set_row r6 5 (.int .u64 (q : Int))
    have r4 := set_row r5 4 (.bool bb)
    have hfin : Dev (((w.setCell ⟨g, 6, none⟩ (.int .i64 ((d.done : Int) + 1))).setCell ⟨g, 5, none⟩ (.int .u64 (q : Int))).setCell ⟨g, 4, none⟩ (.bool bb)) B g bs bl v k d.step := by
      refine h.set ?_ (grownBy_tr (grownBy_tr (setCell_grows w g 6 _) (setCell_grows _ g 5 _)) (setCell_grows _ g 4 _)) rfl rfl h.ok.step
      rw [r4, hb, hq]
      rfl
    have HF := Lib.hid hfin
    have cp : (((w.setCell ⟨g, 6, none⟩ (.int .i64 ((d.done : Int) + 1))).setCell ⟨g, 5, none⟩ (.int .u64 (q : Int))).setCell ⟨g, 4, none⟩ (.bool bb)).cell? ⟨g, 4, none⟩ = some (.bool bb) := by rw [cell_of_row _ g 4 _ _ _ r4]; rfl
    have HP := Lib.hid cp
    have HG := Lib.hid (grownBy_tr (grownBy_tr (setCell_grows w g 6 (.int .i64 ((d.done : Int) + 1))) (setCell_grows _ g 5 (.int .u64 (q : Int)))) (setCell_grows _ g 4 (.bool bb)))
    clear r6 r5 r4 hq hb h0 hfin cp hf hd h
    go_enter Tryz.func96, Tryz.ntmps96
    go_wp2_with (go_at_call 95; refine (power_at g bb _ HP.out).mono ?_; rintro e w1 ⟨rfl, rfl⟩)
    go_ret
    exact ⟨rfl, HF.out, HG.out⟩

def Dv.settled (d : Dv) : Dv := { d with ws := [] }
theorem Dv.Ok.settled {d : Dv} (h : d.Ok) : d.settled.Ok := ⟨h.n, h.S, (fun p hp => by cases hp), h.fuse⟩
set_option maxRecDepth 8000 in
theorem settle_any {w : World} {B g bs bl k : Nat} {v : Value} {d : Dv} (h : Dev w B g bs bl v k d) :
    Calls Tryz.prog 46 #[.pointer (some ⟨g, 0, none⟩)] w fun e w' => e = .returned (.tuple #[]) ∧ Dev w' B g bs w.heap.size (.slice none 0 0) k d.settled ∧ w.grownBy w' (some g) := by
  have hlt := h.lt
  have hblt := h.safe.lt
  obtain ⟨W2, hW2⟩ : ∃ W2, W2 = (w.setCell ⟨g, 2, none⟩ (.slice none 0 0)).setCell ⟨g, 3, none⟩ (.map (some w.heap.size)) := ⟨_, rfl⟩
  have hg2 : w.grownBy W2 (some g) := by rw [hW2]; exact grownBy_tr (setCell_grows _ g 2 _) (setCell_grows _ g 3 _)
  have r2 := set_row h.row 2 (.slice none 0 0)
  have r3 := set_row r2 3 (.map (some w.heap.size))
  rw [← hW2] at r3
  have hz2 : W2.heap.size = w.heap.size := by rw [hW2]; simp
  have hm0 : MapI Tryz.prog 3 (W2.alloc (.map #[] 0)) w.heap.size 0 (fun _ => none) := by rw [← hz2]; exact mapI_made W2
  have hg0 := World.grownBy_alloc W2 (.map #[] 0) none
  have hfin : Dev (W2.alloc (.map #[] 0)) B g bs w.heap.size (.slice none 0 0) k d.settled := by
    refine ⟨by rw [row_far r3 hg0 (fun e => by cases e)]; rfl, ?_, hm0, World.ownsRow_nil _ _ _ _, h.gs, by omega, by omega, (fun q e => by cases e), h.hg, h.hs, Nat.le_trans h.hg (Nat.le_of_lt hlt), h.ok.settled⟩
    exact (h.safe.kept hg2 (fun e => h.gs (Option.some.inj e).symm)).kept hg0 (fun e => by cases e)
  have hgr : w.grownBy (W2.alloc (.map #[] 0)) (some g) := grownBy_tr hg2 ⟨hg0.os, hg0.tape, hg0.output, hg0.size, fun i hi _ => hg0.block i hi (fun e => by cases e)⟩
  have c2 := h.c2
  have f2 := h.free 2
  have c3 := h.c3
  have f3 := h.free 3
  have HF := Lib.hid hfin
  have HG := Lib.hid hgr
  have hmm := @run_makeMap Tryz.prog
  have HW := Lib.hid hW2
  clear hfin hgr r2 r3 hg0 hg2 hm0 hz2 hW2 h
  go_enter Tryz.func46, Tryz.ntmps46
  go_wp2
  rw [← HW.out]
  go_returns
  exact ⟨rfl, HF.out, HG.out⟩

end Go.Proofs.YtgbbbemedncdoaaGreatDoor

namespace Go.Proofs.YtgbbbemedncdoaaGreatDoor
set_option maxRecDepth 20000
open Go.RowKit

def Dv.keep (d : Dv) (x : Int) (s : List UInt8) : Dv := { d with S := fun y => if y = x then s else d.S y }
theorem Dv.Ok.keep {d : Dv} (h : d.Ok) (x : Int) {s : List UInt8} (hs : s.length = 64) : (d.keep x s).Ok := ⟨h.n, (fun y => by unfold Dv.keep; dsimp only; split; exact hs; exact h.S y), h.ws, h.fuse⟩
theorem nz_keep (d : Dv) (x : Int) (s : List UInt8) : nz (d.keep x s).S = fun y => if y = x then (if s = Z then none else some s) else nz d.S y := by
  funext y
  unfold nz Dv.keep
  dsimp only
  by_cases hy : y = x
  · simp [hy]
  · simp [hy]
theorem Dev.keep_set {w w1 : World} {B g bs bl k k' : Nat} {v : Value} {d : Dv} {x : Int} {s : List UInt8} (h : Dev w B g bs bl v k d) (hs : s.length = 64) (hg : w.grownBy w1 (some bs)) (hm : MapI Tryz.prog 3 w1 bs k' (nz (d.keep x s).S)) : Dev w1 B g bs bl v k' (d.keep x s) := by
  refine ⟨row_far h.row hg (fun e => h.gs (Option.some.inj e)), hm, h.last.kept hg (fun e => h.sl (Option.some.inj e).symm), h.waits.kept hg ?_, h.gs, h.gl, h.sl, h.vg, h.hg, h.hs, h.hl, h.ok.keep x hs⟩
  cases hk : v.ownBlock with
  | none => exact .inl rfl
  | some q => exact .inr (fun e => (h.vg q hk).2.1 (Option.some.inj e))

/-- A drawn region, in which no block but those of F turns. -/
theorem wp_keeps {P : Program} {Q : Exit → Act → World → Prop} {id : Nat} {l : List Oper} {a : Act} {w : World} (F : Nat → Prop) (segs : List (List Nat × Nat)) (last : List Nat) (hm : P.follows .mixedOrders = true)
    (hok : (Region.noSelect l.toArray && (segOk .any l.toArray segs last (Array.replicate l.toArray.size false) && decide (stepsOf segs last ≤ l.toArray.size))) = true)
    (hQ : ∀ (d : Option Tmp) v c a w, Q (.panic c) (a.put d v) w → Q (.panic c) a w) (h : ∀ wd, Below w.heap.size w wd → wpSegs P l.toArray Q segs last (fun x => Keeps F w x) a wd) : (Code.region id l.toArray true).wp P Q a w :=
  wp_segs segs last (fun x => Keeps F w x) hm hok hQ (Keeps.refl _ _).drew (h _ (Below.refl _ _).drew)
section
variable {P : Program} {ops : Array Oper} {C : World → Prop} {K : Act → Prop} {o : Oper} {rest : List Oper} {a : Act}
theorem wpQ_val (hgd : o.guard = none) (v : Value) (hrun : ∀ x, C x → (execOp a.eval o).run P x = .ok (.value v) x) (h : wpQuiet P ops C K rest (a.put o.dst v)) : wpQuiet P ops C K (o :: rest) a := by
  unfold wpQuiet
  have hw : Region.wanted o (yielded ops a.tmps) = true := by unfold Region.wanted; rw [hgd]
  rw [if_pos hw]
  refine ⟨v, fun x hx => ?_, h⟩
  unfold Oper.quietAt
  rw [hrun x hx]
  exact ⟨rfl, rfl⟩
/-- What a load yields, whatever the type. -/
theorem wpQ_load (hgd : o.guard = none) (ty : TypeId) (x : Operand) (ho : o.op = .load ty x) {p v : Value} (hx : a.eval x = p) (hrun : ∀ w, C w → (Instr.loadAt ty p).run P w = .ok v w) (h : wpQuiet P ops C K rest (a.put o.dst v)) : wpQuiet P ops C K (o :: rest) a :=
  wpQ_val hgd v (fun w hw => by simp [execOp, ho, hx, hrun w hw, Result.andThen]) h
/-- What a map says of a key. -/
theorem wpQ_lookup (hgd : o.guard = none) (ty : TypeId) (x y : Operand) (ok : Bool) (ho : o.op = .lookup ty x y ok) {p q v : Value} (hx : a.eval x = p) (hy : a.eval y = q) (hrun : ∀ w, C w → (Instr.lookup ty p q ok).run P w = .ok v w) (h : wpQuiet P ops C K rest (a.put o.dst v)) : wpQuiet P ops C K (o :: rest) a :=
  wpQ_val hgd v (fun w hw => by simp [execOp, ho, hx, hy, hrun w hw, Result.andThen]) h
end
theorem Keeps.cell {F : Nat → Prop} {w w' : World} (h : Keeps F w w') {b i : Nat} {u : Value} (hc : w.cell? ⟨b, i, none⟩ = some u) (hF : ¬ F b) : w'.cell? ⟨b, i, none⟩ = some u :=
  (World.cell?_of_block (a := ⟨b, i, none⟩) (h.block b (by have := block_lt_of_cell hc; exact this) hF)).trans hc
theorem Keeps.row {F : Nat → Prop} {w w' : World} (h : Keeps F w w') {b : Nat} {o : Obj} (hc : w.heap[b]? = some o) (hF : ¬ F b) : w'.heap[b]? = some o := (h.block b (Array.getElem?_eq_some_iff.1 hc).1 hF).trans hc
theorem Keeps.one {w w' : World} {b : Nat} (h : w.grownBy w' (some b)) : Keeps (fun i => i = b) w w' := (Keeps.refl _ _).grown h (fun _ e => .inl (Option.some.inj e).symm)
theorem Dev.below {w w' : World} {B g bs bl k : Nat} {v : Value} {d : Dv} (h : Dev w B g bs bl v k d) (hb : Below w.heap.size w w') : Dev w' B g bs bl v k d := h.keeps (F := fun _ => False) (Keeps.of_below hb) (fun _ hi => hi.elim)
theorem Dev.new {w w' : World} {B g bs bl k : Nat} {v : Value} {d : Dv} (h : Dev w B g bs bl v k d) (hb : w.grownBy w' none) : Dev w' B g bs bl v k d := h.keeps (F := fun _ => False) ((Keeps.refl _ _).grown hb (fun k e => by cases e)) (fun i hi => hi.elim)
theorem grownBy_none {w w' w2 : World} (h : w.grownBy w' none) {row : Option Nat} (h2 : w'.grownBy w2 row) : w.grownBy w2 row := grownBy_tr ⟨h.os, h.tape, h.output, h.size, fun i hi _ => h.block i hi (fun e => by cases e)⟩ h2

set_option maxHeartbeats 1000000 in
set_option maxRecDepth 8000 in
theorem keep_any {w : World} {B g bs bl k : Nat} {v : Value} {d : Dv} (h : Dev w B g bs bl v k d) (x : Int) (hx : Key x) (s : List UInt8) (hs : s.length = 64) (hk : k ≤ 1000000000) :
    Calls Tryz.prog 45 #[.pointer (some ⟨g, 0, none⟩), .int .i64 x, secv s] w fun e w' => e = .returned (.tuple #[]) ∧ Dev w' B g bs bl v (k + 1) (d.keep x s) ∧ w.grownBy w' (some bs) := by
  by_cases hz : s = Z
  · have HZ := Lib.hid hz
    have HS := Lib.hid hs
    have HX := Lib.hid hx
    clear hz hs hx
    go_enter Tryz.func45, Tryz.ntmps45
    go_wp2_with (first
      | (refine wpL_box rfl (.tmp 2) rfl rfl ?_; intro W bx hbx hrow hg0 hz0
         have hD : Dev W B g bs bl v k d := h.keeps (F := fun _ => False) ((Keeps.refl _ _).grown hg0 (fun k e => by cases e)) (fun i hi => hi.elim)
         have c1 := hD.c1
         obtain ⟨w', hdr, hm, hg, hsz⟩ := hD.safe.drop Tryz.underlying3 Tryz.underlying90 x HX.out 0
         have hfin : Dev w' B g bs bl v (k + 1) (d.keep x s) := hD.keep_set HS.out hg (by rw [nz_keep, if_pos HZ.out]; exact hm.mono (Nat.le_succ _))
         have HF := Lib.hid hfin
         have HG := Lib.hid (grownBy_tr (row := some bs) ⟨hg0.os, hg0.tape, hg0.output, hg0.size, fun i hi _ => hg0.block i hi (fun e => by cases e)⟩ hg)
         clear hfin hm hg hsz hD hg0 hz0)
      | (refine wpL_load rfl (.tmp 5) rfl rfl hrow HS.out ?_)
      | (refine wpL_zero rfl rfl ?_)
      | (refine wpL_eql rfl (.tmp 6) (.tmp 7) _ rfl rfl rfl HS.out Z_len true (by rw [HZ.out]; rfl) ?_)
      | fail)
    go_returns
    exact ⟨rfl, HF.out, HG.out⟩
  · have HZ := Lib.hid hz
    have hdz : decide (s = Z) = false := by simpa using hz
    have HS := Lib.hid hs
    have HX := Lib.hid hx
    have HK := Lib.hid hk
    clear hz hs hx hk
    go_enter Tryz.func45, Tryz.ntmps45
    go_wp2_with (first
      | (refine wpL_box rfl (.tmp 2) rfl rfl ?_; intro W bx hbx hrow hg0 hz0
         have hD : Dev W B g bs bl v k d := h.new hg0)
      | (refine wpL_load rfl (.tmp 5) rfl rfl hrow HS.out ?_)
      | (refine wpL_zero rfl rfl ?_)
      | (refine wpL_eql rfl (.tmp 6) (.tmp 7) _ rfl rfl rfl HS.out Z_len false hdz.symm ?_)
      | fail)
    go_frame
    have hbs : bs < w.heap.size := h.safe.lt
    have hgl : g < w.heap.size := h.lt
    have hgs := h.gs
    refine wp_keeps (fun i => i = bs) [([0, 1, 2, 3, 4, 5], 6)] [] (by kernel_rfl) (by kernel_rfl) (fun d _ _ _ _ h => by cases d <;> exact h) fun wd hbd => ?_
    intro f hf
    have F1 : ∀ x, (∃ z, x = f z) → (Instr.loadAt 99 (.pointer (some ⟨bx, 0, none⟩))).run Tryz.prog x = .ok (secv s) x := by
      rintro x ⟨z, rfl⟩
      exact load_sec ((hf z).row hrow (fun e => by have := hbx.out; omega)) HS.out
    have HF1 := Lib.hid F1
    clear F1
    have F2 := fun z => (hf z).cell hD.c1 hgs
    simp only [pickI, Option.toList_some, List.cons_append, List.nil_append, List.getElem?_toArray, List.getElem?_cons_succ, List.getElem?_cons_zero]
    repeat (first | (refine wpQ_load rfl _ (.tmp 5) rfl rfl HF1.out ?_; go_frame) | go_big_quiet_step (fail))
    refine wpQuiet_nil ?_
    clear HF1 F2 hf f
    have hDd := hD.below hbd
    obtain ⟨w', hput, hm, hg, hsz⟩ := hDd.safe.put Tryz.underlying3 Tryz.underlying90 (by have := HK.out; unfold maxLen; omega) x HX.out s HS.out
    have hfin : Dev w' B g bs bl v (k + 1) (d.keep x s) := hDd.keep_set HS.out hg (by rw [nz_keep, if_neg HZ.out]; exact hm)
    have HF := Lib.hid hfin
    have HG := Lib.hid (grownBy_none hg0 (grownBy_none (below_grown hbd none) hg))
    have HKp := Lib.hid ((Keeps.of_below (F := fun i => i = bs) hbd).trans (Keeps.one hg) (fun i hi => .inl hi))
    clear hfin hm hg hsz
    refine seg_op (by simp only [List.getElem?_toArray, List.getElem?_cons_succ, List.getElem?_cons_zero]; rfl) fun K hK => ?_
    go_simp
    refine hK.out _ _ (seg_keep HKp.out ?_)
    clear hK K
    intro f hf
    refine wpQuiet_nil ?_
    clear hf f
    go_wp2
    go_returns
    exact ⟨rfl, HF.out, HG.out⟩

end Go.Proofs.YtgbbbemedncdoaaGreatDoor

namespace Go.Proofs.YtgbbbemedncdoaaGreatDoor
end Go.Proofs.YtgbbbemedncdoaaGreatDoor

namespace Go.Proofs.YtgbbbemedncdoaaGreatDoor

/-- What is remembered of a client: Top and Bits. -/
abbrev Cl := Nat × Nat
def Cl.ok (p : Cl) : Prop := p.1 < 18446744073709551616 ∧ p.2 < 65536
def oldN (t r : Nat) : Bool := decide (r = 0) || (decide (r ≤ t) && decide (16 ≤ t - r))
def hasN (p : Cl) (r : Nat) : Bool := decide (0 < r) && (decide (r ≤ p.1) && p.2.testBit (p.1 - r))
def withN (p : Cl) (r : Nat) : Cl := if p.1 < r then (r, (p.2 * 2 ^ min (r - p.1) 16 % 65536) ||| 1) else (p.1, p.2 ||| 2 ^ (p.1 - r))

theorem oldN_no {t r : Nat} (h : oldN t r = false) : 0 < r ∧ (r ≤ t → t - r < 16) := by
  simp only [oldN, Bool.or_eq_false_iff, decide_eq_false_iff_not, Bool.and_eq_false_iff] at h
  omega
theorem p16 {k : Nat} (h : k < 16) : 2 ^ k ≤ 32768 := Nat.pow_le_pow_right (n := 2) (by decide) (by omega : k ≤ 15)
theorem withN_ok {p : Cl} {r : Nat} (hp : p.ok) (hr : r < 18446744073709551616) (ho : oldN p.1 r = false) : (withN p r).ok := by
  unfold withN
  split
  · refine ⟨hr, ?_⟩
    exact Nat.or_lt_two_pow (n := 16) (Nat.mod_lt _ (by decide)) (by decide)
  · next h =>
    refine ⟨hp.1, ?_⟩
    have := p16 ((oldN_no ho).2 (by omega))
    exact Nat.or_lt_two_pow (n := 16) hp.2 (by omega)
theorem bit_one (k : Nat) : (1 : Nat).testBit k = decide (k = 0) := by
  cases k with
  | zero => rfl
  | succ k => simp [Nat.testBit_succ]
theorem bit_pow (i k : Nat) : (2 ^ i).testBit k = decide (i = k) := by
  rw [Nat.testBit_two_pow]
theorem withN_bit {p : Cl} {r k : Nat} (hk : k < 16) : (withN p r).2.testBit k = if p.1 < r then (decide (k = 0) || (decide (r - p.1 ≤ k) && p.2.testBit (k - (r - p.1)))) else (p.2.testBit k || decide (p.1 - r = k)) := by
  unfold withN
  split
  · next h =>
    simp only [Nat.testBit_or, bit_one, show (65536 : Nat) = 2 ^ 16 from rfl, Nat.testBit_mod_two_pow, hk, decide_true, Bool.true_and, Nat.testBit_mul_two_pow]
    rw [Bool.or_comm]
    congr 1
    by_cases h16 : r - p.1 ≤ 16
    · rw [Nat.min_eq_left h16]
    · rw [Nat.min_eq_right (by omega)]
      simp [show ¬ 16 ≤ k by omega, show ¬ r - p.1 ≤ k by omega]
  · simp only [Nat.testBit_or, bit_pow]
theorem withN_top (p : Cl) (r : Nat) : (withN p r).1 = max p.1 r := by
  unfold withN
  split <;> simp only <;> omega

theorem bits_ext {a b : Nat} (ha : a < 65536) (hb : b < 65536) (h : ∀ k, k < 16 → a.testBit k = b.testBit k) : a = b := by
  apply Nat.eq_of_testBit_eq
  intro k
  by_cases hk : k < 16
  · exact h k hk
  · rw [Nat.testBit_lt_two_pow (Nat.lt_of_lt_of_le ha (Nat.pow_le_pow_right (n := 2) (by decide) (show 16 ≤ k by omega))), Nat.testBit_lt_two_pow (Nat.lt_of_lt_of_le hb (Nat.pow_le_pow_right (n := 2) (by decide) (show 16 ≤ k by omega)))]
/-- What is there already changes nothing. -/
theorem withN_has {p : Cl} {r : Nat} (hp : p.ok) (h : hasN p r = true) (ho : oldN p.1 r = false) : withN p r = p := by
  simp only [hasN, Bool.and_eq_true, decide_eq_true_eq] at h
  obtain ⟨h0, h1, h2⟩ := h
  have hl := (oldN_no ho).2 h1
  refine Prod.ext (by rw [withN_top]; omega) (bits_ext ?_ hp.2 fun k hk => ?_)
  · unfold withN
    rw [if_neg (by omega)]
    have := p16 hl
    exact Nat.or_lt_two_pow (n := 16) hp.2 (by omega)
  · rw [withN_bit hk, if_neg (by omega)]
    by_cases e : p.1 - r = k
    · subst e; simp [h2]
    · simp [e]
/-- What is new changes what is remembered. -/
theorem withN_new {p : Cl} {r : Nat} (h : hasN p r = false) (ho : oldN p.1 r = false) : withN p r ≠ p := by
  intro e
  obtain ⟨h0, hl⟩ := oldN_no ho
  have ht := withN_top p r
  rw [e] at ht
  have hle : r ≤ p.1 := by omega
  have hb := withN_bit (p := p) (r := r) (hl hle)
  rw [e, if_neg (by omega)] at hb
  simp only [hasN, h0, hle, decide_true, Bool.true_and] at h
  rw [h] at hb
  simp at hb
theorem hasN_with {p : Cl} {r : Nat} (ho : oldN p.1 r = false) : hasN (withN p r) r = true ∧ oldN (withN p r).1 r = false := by
  obtain ⟨h0, hl⟩ := oldN_no ho
  have ht := withN_top p r
  have hk : (withN p r).1 - r < 16 := by omega
  constructor
  · simp only [hasN, h0, show r ≤ (withN p r).1 by omega, decide_true, Bool.true_and]
    rw [withN_bit hk]
    split
    · simp only [show (withN p r).1 - r = 0 by omega, decide_true, Bool.true_or]
    · simp only [show p.1 - r = (withN p r).1 - r by omega, decide_true, Bool.or_true]
  · simp only [oldN, show ¬ r = 0 by omega, decide_false, Bool.false_or, Bool.and_eq_false_iff, decide_eq_false_iff_not]
    omega
theorem hasN_old {p : Cl} {r : Nat} (hp : p.ok) (ho : oldN p.1 r = true) : hasN p r = false := by
  simp only [oldN, Bool.or_eq_true, Bool.and_eq_true, decide_eq_true_eq] at ho
  simp only [hasN, Bool.and_eq_false_iff, decide_eq_false_iff_not]
  rcases ho with h | ⟨h1, h2⟩
  · left; omega
  · right; right
    exact Nat.testBit_lt_two_pow (Nat.lt_of_lt_of_le hp.2 (Nat.pow_le_pow_right (n := 2) (by decide) (show 16 ≤ p.1 - r by omega)))

/-- The document's bit k of what is remembered then. -/
def bitN (p : Cl) (r k : Nat) : Bool := decide (k = max p.1 r - r) || (decide (max p.1 r - p.1 ≤ k) && p.2.testBit (k - (max p.1 r - p.1)))
theorem withN_bitN {p : Cl} {r k : Nat} (hk : k < 16) : (withN p r).2.testBit k = bitN p r k := by
  rw [withN_bit hk]
  unfold bitN
  split
  · next h =>
    rw [Nat.max_eq_right (by omega), Nat.sub_self]
  · next h =>
    rw [Nat.max_eq_left (by omega), Nat.sub_self]
    simp only [Nat.zero_le, decide_true, Bool.true_and, Nat.sub_zero]
    rw [Bool.or_comm]
    congr 1
    rw [Bool.eq_iff_iff]
    simp only [decide_eq_true_eq]
    omega
theorem mod_step (x k : Nat) : x % 2 ^ (k + 1) = x % 2 ^ k + if x.testBit k then 2 ^ k else 0 := by
  rw [Nat.mod_pow_succ, Nat.testBit_eq_decide_div_mod_eq]
  rcases Nat.mod_two_eq_zero_or_one (x / 2 ^ k) with h | h <;> simp [h]

/-! ### In which order requests are done is of no matter -/
def Inv (p : Cl) (P : Nat → Prop) : Prop := (∀ x, P x → x ≤ p.1 ∧ 0 < x) ∧ (p.1 = 0 ∨ P p.1) ∧ p.ok ∧ ∀ k, k < 16 → (p.2.testBit k = true ↔ k ≤ p.1 ∧ P (p.1 - k))
theorem inv_zero : Inv (0, 0) (fun _ => False) := ⟨fun _ h => h.elim, .inl rfl, ⟨by decide, by decide⟩, fun k _ => by simp⟩
theorem inv_iff {p : Cl} {P Q : Nat → Prop} (h : Inv p P) (hq : ∀ x, P x ↔ Q x) : Inv p Q := by
  obtain ⟨h1, h2, h3, h4⟩ := h
  refine ⟨fun x hx => h1 x ((hq x).2 hx), h2.imp id (hq _).1, h3, fun k hk => ?_⟩
  rw [h4 k hk, hq]
theorem inv_with {p : Cl} {P : Nat → Prop} {r : Nat} (h : Inv p P) (hr : r < 18446744073709551616) (ho : oldN p.1 r = false) : Inv (withN p r) (fun x => P x ∨ x = r) := by
  obtain ⟨h1, h2, h3, h4⟩ := h
  obtain ⟨h0, hl⟩ := oldN_no ho
  have ht := withN_top p r
  refine ⟨fun x hx => ?_, ?_, withN_ok h3 hr ho, fun k hk => ?_⟩
  · rcases hx with hx | rfl
    · have := h1 x hx; omega
    · omega
  · by_cases hc : p.1 < r
    · exact .inr (.inr (by omega))
    · rcases h2 with e | e
      · exact .inl (by omega)
      · exact .inr (.inl (by rw [show (withN p r).1 = p.1 by omega]; exact e))
  · rw [withN_bit hk]
    by_cases hc : p.1 < r
    · rw [if_pos hc, show (withN p r).1 = r by omega]
      simp only [Bool.or_eq_true, Bool.and_eq_true, decide_eq_true_eq]
      constructor
      · rintro (rfl | ⟨a, b⟩)
        · exact ⟨by omega, .inr (by omega)⟩
        · obtain ⟨c, d⟩ := (h4 _ (by omega)).1 b
          rw [show p.1 - (k - (r - p.1)) = r - k by omega] at d
          exact ⟨by omega, .inl d⟩
      · rintro ⟨a, b | b⟩
        · have := h1 _ b
          refine .inr ⟨by omega, (h4 _ (by omega)).2 ⟨by omega, ?_⟩⟩
          rw [show p.1 - (k - (r - p.1)) = r - k by omega]
          exact b
        · exact .inl (by omega)
    · rw [if_neg hc, show (withN p r).1 = p.1 by omega]
      simp only [Bool.or_eq_true, decide_eq_true_eq]
      rw [h4 k hk]
      constructor
      · rintro (⟨a, b⟩ | a)
        · exact ⟨a, .inl b⟩
        · exact ⟨by omega, .inr (by omega)⟩
      · rintro ⟨a, b | b⟩
        · exact .inl ⟨a, b⟩
        · exact .inr (by omega)
theorem inv_uniq {p q : Cl} {P : Nat → Prop} (h : Inv p P) (k : Inv q P) : p = q := by
  obtain ⟨h1, h2, h3, h4⟩ := h
  obtain ⟨k1, k2, k3, k4⟩ := k
  have e : p.1 = q.1 := by
    rcases h2 with h2 | h2 <;> rcases k2 with k2 | k2
    · omega
    · have := h1 _ k2; omega
    · have := k1 _ h2; omega
    · have := h1 _ k2; have := k1 _ h2; omega
  refine Prod.ext e (bits_ext h3.2 k3.2 fun k hk => ?_)
  rw [Bool.eq_iff_iff, h4 k hk, k4 k hk, e]
theorem inv_told {p : Cl} {P : Nat → Prop} (h : Inv p P) {r : Nat} (hr : P r) : hasN p r = true ∨ oldN p.1 r = true := by
  obtain ⟨h1, h2, h3, h4⟩ := h
  have := h1 r hr
  by_cases hc : 16 ≤ p.1 - r
  · right
    simp only [oldN, Bool.or_eq_true, Bool.and_eq_true, decide_eq_true_eq]
    exact .inr ⟨this.1, hc⟩
  · left
    simp only [hasN, Bool.and_eq_true, decide_eq_true_eq]
    refine ⟨this.2, this.1, (h4 _ (by omega)).2 ⟨by omega, ?_⟩⟩
    rw [show p.1 - (p.1 - r) = r by omega]
    exact hr

end Go.Proofs.YtgbbbemedncdoaaGreatDoor

namespace Go.Proofs.YtgbbbemedncdoaaGreatDoor
open Go.RowKit
set_option maxRecDepth 20000

theorem below1 (w : World) (o : Obj) : Below w.heap.size w (w.alloc o) := (Below.refl _ _).alloc (Nat.le_refl _) _
theorem below2 (w : World) (o p : Obj) : Below w.heap.size w ((w.alloc o).alloc p) := (below1 w o).alloc (by simp) _
/-- A client's cells. -/
def clv (p : Cl) : Value := .agg #[.int .u64 (p.1 : Int), .int .u16 (p.2 : Int)]

theorem shr16_op (b n : Nat) (z : Int) (hz : z = (n : Int)) {yk : IntKind} : Op.shift .shr .u16 (b : Int) yk z = pure (.int .u16 ((b / 2 ^ min n 16 : Nat) : Int)) := by
  subst hz
  have h1 : ¬ ((n : Int) < 0) := by omega
  have h2 : (0 : Int) ≤ 2 ^ min n 16 := Int.pow_nonneg (by decide)
  have e : ((2 : Int) ^ min n 16) = ((2 ^ min n 16 : Nat) : Int) := by simp
  simp only [Op.shift, IntKind.bits, h1, if_false, Int.toNat_natCast]
  rw [Int.fdiv_eq_ediv_of_nonneg _ h2, e]
  rfl
theorem shl16_op (b n : Nat) (z : Int) (hz : z = (n : Int)) {yk : IntKind} : Op.shift .shl .u16 (b : Int) yk z = pure (.int .u16 ((b * 2 ^ min n 16 % 65536 : Nat) : Int)) := by
  subst hz
  have h1 : ¬ ((n : Int) < 0) := by omega
  have e : ((b : Int) * (2 : Int) ^ min n 16) = ((b * 2 ^ min n 16 : Nat) : Int) := by simp
  simp only [Op.shift, IntKind.bits, h1, if_false, Int.toNat_natCast, e, IntKind.wrap_u16]
  generalize b * 2 ^ min n 16 = X
  congr 2
theorem ofInt16 (a : Nat) (ha : a < 65536) : (BitVec.ofInt 16 (a : Int)).toNat = a := by
  rw [BitVec.ofInt_natCast, BitVec.toNat_ofNat]; exact Nat.mod_eq_of_lt (by omega)
theorem or16_run (a b : Nat) (ha : a < 65536) (hb : b < 65536) : bits .or .u16 (a : Int) (b : Int) = ((a ||| b : Nat) : Int) := by
  have hx : a ||| b < 2 ^ 16 := Nat.or_lt_two_pow ha hb
  show IntKind.u16.wrap ((BitVec.ofInt 16 (a : Int) ||| BitVec.ofInt 16 (b : Int)).toNat : Int) = _
  rw [BitVec.toNat_or, ofInt16 a ha, ofInt16 b hb, IntKind.wrap_u16]
  omega
theorem and16_one (a : Nat) (ha : a < 65536) : bits .and .u16 (a : Int) 1 = if a.testBit 0 then 1 else 0 := by
  have e1 : (BitVec.ofInt 16 1).toNat = 1 := by decide
  have hx : a &&& 1 ≤ 1 := Nat.and_le_right
  show IntKind.u16.wrap ((BitVec.ofInt 16 (a : Int) &&& BitVec.ofInt 16 1).toNat : Int) = _
  rw [BitVec.toNat_and, ofInt16 a ha, e1, IntKind.wrap_u16, Nat.and_one_is_mod, Nat.testBit_zero]
  rcases Nat.mod_two_eq_zero_or_one a with h | h <;> simp [h]

theorem old_any (p : Cl) (r : Nat) (w : World) (hp : p.ok) :
    Calls Tryz.prog 56 #[clv p, .int .u64 (r : Int)] w fun e w' => e = .returned (.bool (oldN p.1 r)) ∧ Below w.heap.size w w' := by
  obtain ⟨t, b⟩ := p
  have ht := hp.1
  clear hp
  unfold clv oldN
  dsimp only at ht ⊢
  by_cases h0 : r = 0
  · subst h0
    go_enter Tryz.func56, Tryz.ntmps56
    go_wp2
    go_ret
    exact ⟨rfl, (Below.refl _ _).alloc (Nat.le_refl _) _⟩
  · have d0 : ((r : Int) == 0) = false := by simpa using h0
    simp only [h0, decide_false, Bool.false_or]
    by_cases h1 : r ≤ t
    · by_cases h2 : 16 ≤ t - r
      · have d2 : decide ((16 : Int) ≤ (t : Int) - (r : Int)) = true := by simp; omega
        have hfin : (decide (r ≤ t) && decide (16 ≤ t - r)) = true := by simp [h1, h2]
        rw [hfin]
        clear hfin h0
        go_enter Tryz.func56, Tryz.ntmps56
        go_wp2
        go_ret
        exact ⟨rfl, (Below.refl _ _).alloc (Nat.le_refl _) _⟩
      · have d2 : decide ((16 : Int) ≤ (t : Int) - (r : Int)) = false := by simp; omega
        have hfin : (decide (r ≤ t) && decide (16 ≤ t - r)) = false := by simp [h2]
        rw [hfin]
        clear hfin h0
        go_enter Tryz.func56, Tryz.ntmps56
        go_wp2
        go_ret
        exact ⟨rfl, (Below.refl _ _).alloc (Nat.le_refl _) _⟩
    · have d1 : decide (r ≤ t) = false := by simpa using h1
      rw [d1, Bool.false_and]
      clear h0
      go_enter Tryz.func56, Tryz.ntmps56
      go_wp2
      go_ret
      exact ⟨rfl, (Below.refl _ _).alloc (Nat.le_refl _) _⟩

theorem bit_min {b n : Nat} (hb : b < 65536) : (b / 2 ^ min n 16).testBit 0 = b.testBit n := by
  rw [← Nat.shiftRight_eq_div_pow, Nat.testBit_shiftRight, Nat.add_zero]
  by_cases h : n ≤ 16
  · rw [Nat.min_eq_left h]
  · rw [Nat.min_eq_right (by omega), Nat.testBit_lt_two_pow hb, Nat.testBit_lt_two_pow (Nat.lt_of_lt_of_le hb (Nat.pow_le_pow_right (n := 2) (by decide) (show 16 ≤ n by omega)))]
theorem has14_any (p : Cl) (r : Nat) (w : World) (hp : p.ok) (hr : r < 18446744073709551616) :
    Calls Tryz.prog 67 #[clv p, .int .u64 (r : Int)] w fun e w' => e = .returned (.bool (hasN p r)) ∧ Below w.heap.size w w' := by
  obtain ⟨t, b⟩ := p
  obtain ⟨ht, hb⟩ := hp
  unfold clv hasN
  dsimp only at ht hb ⊢
  by_cases h0 : 0 < r
  · have d0 : ((r : Int) != 0) = true := by simp; omega
    simp only [h0, decide_true, Bool.true_and]
    by_cases h1 : r ≤ t
    · have e1 := shr16_op (yk := .u64) b (t - r) ((t : Int) - (r : Int)) (by omega)
      have hx : b / 2 ^ min (t - r) 16 < 65536 := Nat.lt_of_le_of_lt (Nat.div_le_self _ _) hb
      have e2 := and16_one _ hx
      rw [bit_min hb] at e2
      have d1 : decide (r ≤ t) = true := by simpa using h1
      rw [d1, Bool.true_and]
      clear d1
      generalize b / 2 ^ min (t - r) 16 = X at *
      cases hbit : b.testBit (t - r)
      · rw [hbit] at e2
        simp only [Bool.false_eq_true, if_false] at e2
        clear hbit
        go_enter Tryz.func67, Tryz.ntmps67
        go_wp2
        go_ret
        exact ⟨rfl, (Below.refl _ _).alloc (Nat.le_refl _) _⟩
      · rw [hbit] at e2
        simp only [if_true] at e2
        clear hbit
        go_enter Tryz.func67, Tryz.ntmps67
        go_wp2
        go_ret
        exact ⟨rfl, (Below.refl _ _).alloc (Nat.le_refl _) _⟩
    · have d1 : decide (r ≤ t) = false := by simpa using h1
      rw [d1, Bool.false_and]
      go_enter Tryz.func67, Tryz.ntmps67
      go_wp2
      go_ret
      exact ⟨rfl, (Below.refl _ _).alloc (Nat.le_refl _) _⟩
  · obtain rfl : r = 0 := by omega
    go_enter Tryz.func67, Tryz.ntmps67
    go_wp2
    go_ret
    exact ⟨rfl, (Below.refl _ _).alloc (Nat.le_refl _) _⟩

theorem with_any (p : Cl) (r : Nat) (w : World) (hp : p.ok) (hr : r < 18446744073709551616) (ho : oldN p.1 r = false) :
    Calls Tryz.prog 94 #[clv p, .int .u64 (r : Int)] w fun e w' => e = .returned (clv (withN p r)) ∧ Below w.heap.size w w' := by
  obtain ⟨t, b⟩ := p
  obtain ⟨ht, hb⟩ := hp
  obtain ⟨h0, hl⟩ := oldN_no ho
  unfold clv withN
  dsimp only at ht hb hl ⊢
  clear ho
  by_cases h1 : t < r
  · rw [if_pos h1]
    have e1 := shl16_op (yk := .u64) b (r - t) ((r : Int) - (t : Int)) (by omega)
    have e2 := shl16_op (yk := .u64) 1 0 ((r : Int) - (r : Int)) (by omega)
    have hx : b * 2 ^ min (r - t) 16 % 65536 < 65536 := Nat.mod_lt _ (by decide)
    generalize b * 2 ^ min (r - t) 16 % 65536 = X at *
    have e3 := or16_run X 1 hx (by decide)
    simp at e2 e3
    clear hl
    go_enter Tryz.func94, Tryz.ntmps94
    go_wp2
    exact bodyPost_ret (v := .agg #[.int .u64 (r : Int), .int .u16 ((X ||| 1 : Nat) : Int)]) (by simp [results, Tryz.results94, go_sem]) rfl ⟨rfl, below2 _ _ _⟩
  · rw [if_neg h1]
    have hl := hl (by omega)
    have hq := p16 hl
    have e1 := shl16_op (yk := .u64) 1 (t - r) ((t : Int) - (r : Int)) (by omega)
    rw [Nat.min_eq_left (by omega), Nat.one_mul, Nat.mod_eq_of_lt (by omega)] at e1
    generalize 2 ^ (t - r) = X at *
    have e3 := or16_run b X hb (by omega)
    have h1' : decide (t < r) = false := by simpa using h1
    simp at e1
    go_enter Tryz.func94, Tryz.ntmps94
    go_wp2
    exact bodyPost_ret (v := .agg #[.int .u64 (t : Int), .int .u16 ((b ||| X : Nat) : Int)]) (by simp [results, Tryz.results94, go_sem]) rfl ⟨rfl, below2 _ _ _⟩

end Go.Proofs.YtgbbbemedncdoaaGreatDoor

/- A device's steps: what is counted, kept, settled, seen. A device: what is kept, and what is seen. -/
import Derived.Test.YtpalmobmabkadaaGreatDoorSecZM
import Derived.Test.YtpalmobmabkadaaGreatDoorSegsZM
namespace Go.Proofs.YtpalmobmabkadaaGreatDoor
set_option maxRecDepth 20000
open Go.RowKit

theorem set_row {w : World} {g : Nat} {cs : Array Value} {e : TypeId} (h : w.heap[g]? = some (.cells cs e (0, 0))) (i : Nat) (u : Value) : (w.setCell ⟨g, i, none⟩ u).heap[g]? = some (.cells (cs.setIfInBounds i u) e (0, 0)) := by
  rw [heap_setCell_same w g i _ _ _ h]
theorem setCell_grows (w : World) (b i : Nat) (u : Value) : w.grownBy (w.setCell ⟨b, i, none⟩ u) (some b) := setCell_by (World.grownBy.refl w (some b)) (p := ⟨b, i, none⟩) rfl u
theorem grownBy_tr {a b c : World} {row : Option Nat} (h : a.grownBy b row) (k : b.grownBy c row) : a.grownBy c row := grownBy_trans h k (.inl rfl)

def Dv.step (d : Dv) : Dv := { d with done := d.done + 1, fuse := d.fuse - 1, down := if d.fuse = 0 then d.down else decide (d.fuse = 1) }
theorem Dv.Ok.step {d : Dv} (h : d.Ok) : d.step.Ok := ⟨h.n, h.S, h.ws, Nat.lt_of_le_of_lt (Nat.sub_le _ _) h.fuse⟩

set_option maxRecDepth 8000 in
theorem step_any {w : World} {B g bs bl k : Nat} {v : Value} {d : Dv} (h : Dev w B g bs bl v k d) (hd : d.done ≤ 1000000000) :
    Calls Tryz.prog 96 #[.pointer (some ⟨g, 0, none⟩)] w fun e w' => e = .returned (.int .i64 (pw d.step.down)) ∧ Dev w' B g bs bl v k d.step ∧ w.grownBy w' (some g) := by
  have c4 := h.c4
  have c5 := h.c5
  have c6 := h.c6
  have f4 := h.free 4
  have f5 := h.free 5
  have f6 := h.free 6
  have hf := h.ok.fuse
  have hdi : (d.done : Int) ≤ 1000000000 := by omega
  have hd0 : (0 : Int) ≤ (d.done : Int) := by omega
  obtain ⟨q, hq⟩ : ∃ q, q = d.fuse - 1 := ⟨_, rfl⟩
  obtain ⟨bb, hb⟩ : ∃ bb, bb = d.step.down := ⟨_, rfl⟩
  have r6 := set_row h.row 6 (.int .i64 ((d.done : Int) + 1))
  rw [← hb]
  by_cases h0 : d.fuse = 0
  · have e0 : (d.fuse : Int) = 0 := by omega
    have hbd : bb = d.down := by rw [hb]; unfold Dv.step; simp [h0]
    have hfin : Dev (w.setCell ⟨g, 6, none⟩ (.int .i64 ((d.done : Int) + 1))) B g bs bl v k d.step := by
      refine h.set ?_ (setCell_grows w g 6 _) rfl rfl h.ok.step
      rw [r6]
      unfold devRow Dv.step
      simp [h0]
    rw [e0] at c5
    have HF := Lib.hid hfin
    have cp : (w.setCell ⟨g, 6, none⟩ (.int .i64 ((d.done : Int) + 1))).cell? ⟨g, 4, none⟩ = some (.bool bb) := by rw [hbd]; rw [cell_of_row _ g 4 _ _ _ r6]; rfl
    have HP := Lib.hid cp
    have HG := Lib.hid (setCell_grows w g 6 (.int .i64 ((d.done : Int) + 1)))
    clear r6 hq hb h0 hbd hfin cp e0 hf hd h
    go_enter Tryz.func96, Tryz.ntmps96
    go_wp2_with (go_at_call 95; refine (power_at g bb _ HP.out).mono ?_; rintro e w1 ⟨rfl, rfl⟩)
    go_ret
    exact ⟨rfl, HF.out, HG.out⟩
  · have w1 : IntKind.u64.wrap ((d.fuse : Int) - 1) = (q : Int) := by rw [IntKind.wrap_u64]; omega
    have d1 : decide ((0 : Int) < (d.fuse : Int)) = true := by simp; omega
    have d2 : decide (0 < d.fuse) = true := by simp; omega
    have d3 : 0 < d.fuse := by omega
    have d4 : ((q : Int) == 0) = bb := by
      rw [hb]
      unfold Dv.step
      simp only [if_neg h0]
      rw [Bool.eq_iff_iff]
      simp
      omega
    have r5 := set_row r6 5 (.int .u64 (q : Int))
    have r4 := set_row r5 4 (.bool bb)
    have hfin : Dev (((w.setCell ⟨g, 6, none⟩ (.int .i64 ((d.done : Int) + 1))).setCell ⟨g, 5, none⟩ (.int .u64 (q : Int))).setCell ⟨g, 4, none⟩ (.bool bb)) B g bs bl v k d.step := by
      refine h.set ?_ (grownBy_tr (grownBy_tr (setCell_grows w g 6 _) (setCell_grows _ g 5 _)) (setCell_grows _ g 4 _)) rfl rfl h.ok.step
      rw [r4, hb, hq]
      rfl
    have HF := Lib.hid hfin
    have cp : (((w.setCell ⟨g, 6, none⟩ (.int .i64 ((d.done : Int) + 1))).setCell ⟨g, 5, none⟩ (.int .u64 (q : Int))).setCell ⟨g, 4, none⟩ (.bool bb)).cell? ⟨g, 4, none⟩ = some (.bool bb) := by rw [cell_of_row _ g 4 _ _ _ r4]; rfl
    have HP := Lib.hid cp
    have HG := Lib.hid (grownBy_tr (grownBy_tr (setCell_grows w g 6 (.int .i64 ((d.done : Int) + 1))) (setCell_grows _ g 5 (.int .u64 (q : Int)))) (setCell_grows _ g 4 (.bool bb)))
    clear r6 r5 r4 hq hb h0 hfin cp hf hd h
    go_enter Tryz.func96, Tryz.ntmps96
    go_wp2_with (go_at_call 95; refine (power_at g bb _ HP.out).mono ?_; rintro e w1 ⟨rfl, rfl⟩)
    go_ret
    exact ⟨rfl, HF.out, HG.out⟩

def Dv.settled (d : Dv) : Dv := { d with ws := [] }
theorem Dv.Ok.settled {d : Dv} (h : d.Ok) : d.settled.Ok := ⟨h.n, h.S, (fun p hp => by cases hp), h.fuse⟩
set_option maxRecDepth 8000 in
theorem settle_any {w : World} {B g bs bl k : Nat} {v : Value} {d : Dv} (h : Dev w B g bs bl v k d) :
    Calls Tryz.prog 46 #[.pointer (some ⟨g, 0, none⟩)] w fun e w' => e = .returned (.tuple #[]) ∧ Dev w' B g bs w.heap.size (.slice none 0 0) k d.settled ∧ w.grownBy w' (some g) := by
  have hlt := h.lt
  have hblt := h.safe.lt
  obtain ⟨W2, hW2⟩ : ∃ W2, W2 = (w.setCell ⟨g, 2, none⟩ (.slice none 0 0)).setCell ⟨g, 3, none⟩ (.map (some w.heap.size)) := ⟨_, rfl⟩
  have hg2 : w.grownBy W2 (some g) := by rw [hW2]; exact grownBy_tr (setCell_grows _ g 2 _) (setCell_grows _ g 3 _)
  have r2 := set_row h.row 2 (.slice none 0 0)
  have r3 := set_row r2 3 (.map (some w.heap.size))
  rw [← hW2] at r3
  have hz2 : W2.heap.size = w.heap.size := by rw [hW2]; simp
  have hm0 : MapI Tryz.prog 3 (W2.alloc (.map #[] 0)) w.heap.size 0 (fun _ => none) := by rw [← hz2]; exact mapI_made W2
  have hg0 := World.grownBy_alloc W2 (.map #[] 0) none
  have hfin : Dev (W2.alloc (.map #[] 0)) B g bs w.heap.size (.slice none 0 0) k d.settled := by
    refine ⟨by rw [row_far r3 hg0 (fun e => by cases e)]; rfl, ?_, hm0, World.ownsRow_nil _ _ _ _, h.gs, by omega, by omega, (fun q e => by cases e), h.hg, h.hs, Nat.le_trans h.hg (Nat.le_of_lt hlt), h.ok.settled⟩
    exact (h.safe.kept hg2 (fun e => h.gs (Option.some.inj e).symm)).kept hg0 (fun e => by cases e)
  have hgr : w.grownBy (W2.alloc (.map #[] 0)) (some g) := grownBy_tr hg2 ⟨hg0.os, hg0.tape, hg0.output, hg0.size, fun i hi _ => hg0.block i hi (fun e => by cases e)⟩
  have c2 := h.c2
  have f2 := h.free 2
  have c3 := h.c3
  have f3 := h.free 3
  have HF := Lib.hid hfin
  have HG := Lib.hid hgr
  have hmm := @run_makeMap Tryz.prog
  have HW := Lib.hid hW2
  clear hfin hgr r2 r3 hg0 hg2 hm0 hz2 hW2 h
  go_enter Tryz.func46, Tryz.ntmps46
  go_wp2
  rw [← HW.out]
  go_returns
  exact ⟨rfl, HF.out, HG.out⟩

end Go.Proofs.YtpalmobmabkadaaGreatDoor

namespace Go.Proofs.YtpalmobmabkadaaGreatDoor
set_option maxRecDepth 20000
open Go.RowKit

def Dv.keep (d : Dv) (x : Int) (s : List UInt8) : Dv := { d with S := fun y => if y = x then s else d.S y }
theorem Dv.Ok.keep {d : Dv} (h : d.Ok) (x : Int) {s : List UInt8} (hs : s.length = 64) : (d.keep x s).Ok := ⟨h.n, (fun y => by unfold Dv.keep; dsimp only; split; exact hs; exact h.S y), h.ws, h.fuse⟩
theorem nz_keep (d : Dv) (x : Int) (s : List UInt8) : nz (d.keep x s).S = fun y => if y = x then (if s = Z then none else some s) else nz d.S y := by
  funext y
  unfold nz Dv.keep
  dsimp only
  by_cases hy : y = x
  · simp [hy]
  · simp [hy]
theorem Dev.keep_set {w w1 : World} {B g bs bl k k' : Nat} {v : Value} {d : Dv} {x : Int} {s : List UInt8} (h : Dev w B g bs bl v k d) (hs : s.length = 64) (hg : w.grownBy w1 (some bs)) (hm : MapI Tryz.prog 3 w1 bs k' (nz (d.keep x s).S)) : Dev w1 B g bs bl v k' (d.keep x s) := by
  refine ⟨row_far h.row hg (fun e => h.gs (Option.some.inj e)), hm, h.last.kept hg (fun e => h.sl (Option.some.inj e).symm), h.waits.kept hg ?_, h.gs, h.gl, h.sl, h.vg, h.hg, h.hs, h.hl, h.ok.keep x hs⟩
  cases hk : v.ownBlock with
  | none => exact .inl rfl
  | some q => exact .inr (fun e => (h.vg q hk).2.1 (Option.some.inj e))

/-- A drawn region, in which no block but those of F turns. -/
theorem wp_keeps {P : Program} {Q : Exit → Act → World → Prop} {id : Nat} {l : List Oper} {a : Act} {w : World} (F : Nat → Prop) (segs : List (List Nat × Nat)) (last : List Nat) (hm : P.follows .mixedOrders = true)
    (hok : (Region.noSelect l.toArray && (segOk .any l.toArray segs last (Array.replicate l.toArray.size false) && decide (stepsOf segs last ≤ l.toArray.size))) = true)
    (hQ : ∀ (d : Option Tmp) v c a w, Q (.panic c) (a.put d v) w → Q (.panic c) a w) (h : ∀ wd, Below w.heap.size w wd → wpSegs P l.toArray Q segs last (fun x => Keeps F w x) a wd) : (Code.region id l.toArray true).wp P Q a w :=
  wp_segs segs last (fun x => Keeps F w x) hm hok hQ (Keeps.refl _ _).drew (h _ (Below.refl _ _).drew)
section
variable {P : Program} {ops : Array Oper} {C : World → Prop} {K : Act → Prop} {o : Oper} {rest : List Oper} {a : Act}
theorem wpQ_val (hgd : o.guard = none) (v : Value) (hrun : ∀ x, C x → (execOp a.eval o).run P x = .ok (.value v) x) (h : wpQuiet P ops C K rest (a.put o.dst v)) : wpQuiet P ops C K (o :: rest) a := by
  unfold wpQuiet
  have hw : Region.wanted o (yielded ops a.tmps) = true := by unfold Region.wanted; rw [hgd]
  rw [if_pos hw]
  refine ⟨v, fun x hx => ?_, h⟩
  unfold Oper.quietAt
  rw [hrun x hx]
  exact ⟨rfl, rfl⟩
/-- What a load yields, whatever the type. -/
theorem wpQ_load (hgd : o.guard = none) (ty : TypeId) (x : Operand) (ho : o.op = .load ty x) {p v : Value} (hx : a.eval x = p) (hrun : ∀ w, C w → (Instr.loadAt ty p).run P w = .ok v w) (h : wpQuiet P ops C K rest (a.put o.dst v)) : wpQuiet P ops C K (o :: rest) a :=
  wpQ_val hgd v (fun w hw => by simp [execOp, ho, hx, hrun w hw, Result.andThen]) h
/-- What a map says of a key. -/
theorem wpQ_lookup (hgd : o.guard = none) (ty : TypeId) (x y : Operand) (ok : Bool) (ho : o.op = .lookup ty x y ok) {p q v : Value} (hx : a.eval x = p) (hy : a.eval y = q) (hrun : ∀ w, C w → (Instr.lookup ty p q ok).run P w = .ok v w) (h : wpQuiet P ops C K rest (a.put o.dst v)) : wpQuiet P ops C K (o :: rest) a :=
  wpQ_val hgd v (fun w hw => by simp [execOp, ho, hx, hy, hrun w hw, Result.andThen]) h
end
theorem Keeps.cell {F : Nat → Prop} {w w' : World} (h : Keeps F w w') {b i : Nat} {u : Value} (hc : w.cell? ⟨b, i, none⟩ = some u) (hF : ¬ F b) : w'.cell? ⟨b, i, none⟩ = some u :=
  (World.cell?_of_block (a := ⟨b, i, none⟩) (h.block b (by have := block_lt_of_cell hc; exact this) hF)).trans hc
theorem Keeps.row {F : Nat → Prop} {w w' : World} (h : Keeps F w w') {b : Nat} {o : Obj} (hc : w.heap[b]? = some o) (hF : ¬ F b) : w'.heap[b]? = some o := (h.block b (Array.getElem?_eq_some_iff.1 hc).1 hF).trans hc
theorem Keeps.one {w w' : World} {b : Nat} (h : w.grownBy w' (some b)) : Keeps (fun i => i = b) w w' := (Keeps.refl _ _).grown h (fun _ e => .inl (Option.some.inj e).symm)
theorem Dev.below {w w' : World} {B g bs bl k : Nat} {v : Value} {d : Dv} (h : Dev w B g bs bl v k d) (hb : Below w.heap.size w w') : Dev w' B g bs bl v k d := h.keeps (F := fun _ => False) (Keeps.of_below hb) (fun _ hi => hi.elim)
theorem Dev.new {w w' : World} {B g bs bl k : Nat} {v : Value} {d : Dv} (h : Dev w B g bs bl v k d) (hb : w.grownBy w' none) : Dev w' B g bs bl v k d := h.keeps (F := fun _ => False) ((Keeps.refl _ _).grown hb (fun k e => by cases e)) (fun i hi => hi.elim)
theorem grownBy_none {w w' w2 : World} (h : w.grownBy w' none) {row : Option Nat} (h2 : w'.grownBy w2 row) : w.grownBy w2 row := grownBy_tr ⟨h.os, h.tape, h.output, h.size, fun i hi _ => h.block i hi (fun e => by cases e)⟩ h2

set_option maxHeartbeats 1000000 in
set_option maxRecDepth 8000 in
theorem keep_any {w : World} {B g bs bl k : Nat} {v : Value} {d : Dv} (h : Dev w B g bs bl v k d) (x : Int) (hx : Key x) (s : List UInt8) (hs : s.length = 64) (hk : k ≤ 1000000000) :
    Calls Tryz.prog 45 #[.pointer (some ⟨g, 0, none⟩), .int .i64 x, secv s] w fun e w' => e = .returned (.tuple #[]) ∧ Dev w' B g bs bl v (k + 1) (d.keep x s) ∧ w.grownBy w' (some bs) := by
  by_cases hz : s = Z
  · have HZ := Lib.hid hz
    have HS := Lib.hid hs
    have HX := Lib.hid hx
    clear hz hs hx
    go_enter Tryz.func45, Tryz.ntmps45
    go_wp2_with (first
      | (refine wpL_box rfl (.tmp 2) rfl rfl ?_; intro W bx hbx hrow hg0 hz0
         have hD : Dev W B g bs bl v k d := h.keeps (F := fun _ => False) ((Keeps.refl _ _).grown hg0 (fun k e => by cases e)) (fun i hi => hi.elim)
         have c1 := hD.c1
         obtain ⟨w', hdr, hm, hg, hsz⟩ := hD.safe.drop Tryz.underlying3 Tryz.underlying90 x HX.out 0
         have hfin : Dev w' B g bs bl v (k + 1) (d.keep x s) := hD.keep_set HS.out hg (by rw [nz_keep, if_pos HZ.out]; exact hm.mono (Nat.le_succ _))
         have HF := Lib.hid hfin
         have HG := Lib.hid (grownBy_tr (row := some bs) ⟨hg0.os, hg0.tape, hg0.output, hg0.size, fun i hi _ => hg0.block i hi (fun e => by cases e)⟩ hg)
         clear hfin hm hg hsz hD hg0 hz0)
      | (refine wpL_load rfl (.tmp 5) rfl rfl hrow HS.out ?_)
      | (refine wpL_zero rfl rfl ?_)
      | (refine wpL_eql rfl (.tmp 6) (.tmp 7) _ rfl rfl rfl HS.out Z_len true (by rw [HZ.out]; rfl) ?_)
      | fail)
    go_returns
    exact ⟨rfl, HF.out, HG.out⟩
  · have HZ := Lib.hid hz
    have hdz : decide (s = Z) = false := by simpa using hz
    have HS := Lib.hid hs
    have HX := Lib.hid hx
    have HK := Lib.hid hk
    clear hz hs hx hk
    go_enter Tryz.func45, Tryz.ntmps45
    go_wp2_with (first
      | (refine wpL_box rfl (.tmp 2) rfl rfl ?_; intro W bx hbx hrow hg0 hz0
         have hD : Dev W B g bs bl v k d := h.new hg0)
      | (refine wpL_load rfl (.tmp 5) rfl rfl hrow HS.out ?_)
      | (refine wpL_zero rfl rfl ?_)
      | (refine wpL_eql rfl (.tmp 6) (.tmp 7) _ rfl rfl rfl HS.out Z_len false hdz.symm ?_)
      | fail)
    go_frame
    have hbs : bs < w.heap.size := h.safe.lt
    have hgl : g < w.heap.size := h.lt
    have hgs := h.gs
    refine wp_keeps (fun i => i = bs) [([0, 1, 2, 3, 4, 5], 6)] [] (by kernel_rfl) (by kernel_rfl) (fun d _ _ _ _ h => by cases d <;> exact h) fun wd hbd => ?_
    intro f hf
    have F1 : ∀ x, (∃ z, x = f z) → (Instr.loadAt 99 (.pointer (some ⟨bx, 0, none⟩))).run Tryz.prog x = .ok (secv s) x := by
      rintro x ⟨z, rfl⟩
      exact load_sec ((hf z).row hrow (fun e => by have := hbx.out; omega)) HS.out
    have HF1 := Lib.hid F1
    clear F1
    have F2 := fun z => (hf z).cell hD.c1 hgs
    simp only [pickI, Option.toList_some, List.cons_append, List.nil_append, List.getElem?_toArray, List.getElem?_cons_succ, List.getElem?_cons_zero]
    repeat (first | (refine wpQ_load rfl _ (.tmp 5) rfl rfl HF1.out ?_; go_frame) | go_big_quiet_step (fail))
    refine wpQuiet_nil ?_
    clear HF1 F2 hf f
    have hDd := hD.below hbd
    obtain ⟨w', hput, hm, hg, hsz⟩ := hDd.safe.put Tryz.underlying3 Tryz.underlying90 (by have := HK.out; unfold maxLen; omega) x HX.out s HS.out
    have hfin : Dev w' B g bs bl v (k + 1) (d.keep x s) := hDd.keep_set HS.out hg (by rw [nz_keep, if_neg HZ.out]; exact hm)
    have HF := Lib.hid hfin
    have HG := Lib.hid (grownBy_none hg0 (grownBy_none (below_grown hbd none) hg))
    have HKp := Lib.hid ((Keeps.of_below (F := fun i => i = bs) hbd).trans (Keeps.one hg) (fun i hi => .inl hi))
    clear hfin hm hg hsz
    refine seg_op (by simp only [List.getElem?_toArray, List.getElem?_cons_succ, List.getElem?_cons_zero]; rfl) fun K hK => ?_
    go_simp
    refine hK.out _ _ (seg_keep HKp.out ?_)
    clear hK K
    intro f hf
    refine wpQuiet_nil ?_
    clear hf f
    go_wp2
    go_returns
    exact ⟨rfl, HF.out, HG.out⟩

end Go.Proofs.YtpalmobmabkadaaGreatDoor

/- A device: a new one; what is copied; a change. A device: a change that waits. -/
import Derived.Test.YtddnjlnhnnpgiaaChgZ
namespace Go.Proofs.Ytddnjlnhnnpgiaa
set_option maxRecDepth 20000
open Go.RowKit

/-- copy into a whole block, as many as there are. -/
theorem run_cpy {w : World} {g n dc m cc B : Nat} {e : TypeId} {cur : Array Value} {A : Option Addr} {l : List UInt8} (hr : w.heap[g]? = some (.cells cur e (0, 0))) (hs : Rd w B 1 A m cc (u8s l)) (hn : n ≤ cur.size) (ty : TypeId) :
    (Builtin.copy_ #[38, 38] ty #[.slice (some ⟨g, 0, none⟩) n dc, .slice A m cc]).run Try.prog w = .ok (goInt ((min m n : Nat) : Int)) (w.setRow g (u8s (l.take (min m n)) ++ cur.toList.drop (min m n)).toArray) := by
  obtain ⟨q, hq⟩ : ∃ q, q = min m n := ⟨_, rfl⟩
  have hml := hs.len
  rw [u8s_len] at hml
  have hlq : (u8s (l.take q)).length = q := by rw [u8s_len, List.length_take]; omega
  have hfirst : (Builtin.firstCells 1 q (.slice A m cc)).run Try.prog w = .ok (u8s (l.take q)).toArray w := by
    cases A with
    | none =>
      have hm0 : m = 0 := by
        rcases Nat.eq_zero_or_pos m with h | h
        · exact h
        · obtain ⟨b, o, e, _⟩ := hs.2.2.2 h; cases e
      have hq0 : q = 0 := by omega
      subst hq0
      exact run_firstCells_none w 1 0 m cc
    | some a =>
      refine run_firstCells_some w 1 q a m cc _ (by rw [hlq, Nat.mul_one]) fun j v hv => ?_
      have hj : j < q := by rw [← hlq]; exact (List.getElem?_eq_some_iff.1 hv).1
      obtain ⟨b, o, he, _, hc⟩ := hs.2.2.2 (by omega)
      cases he
      rw [addOff]
      refine hc j v ?_
      rw [u8s_take, List.getElem?_take, if_pos hj] at hv
      exact hv
  have hst := run_storeCells_at Try.prog g 0 e (u8s (l.take q)) 0 cur w hr (by rw [hlq]; omega) (u8s_one _)
  simp only [Nat.add_zero, Nat.zero_add, List.take_zero, List.nil_append, hlq] at hst
  have hsz : (Go.sizeOf 5).run Try.prog w = .ok 1 w := by kernel_rfl
  have hmin : Nat.min m n = q := hq.symm
  rw [← hq]
  simp [Builtin.copy_, run_underlying Try.underlying38, Builtin.lenOf, hsz, hmin, hfirst, hst, Result.andThen]
theorem wpL_cpy {w : World} {ops : Array Oper} {rest : List Oper} {o : Oper} {a : Act} {Q : Exit → Act → World → Prop} (hgd : o.guard = none) (s x : Operand)
    (ho : o.op = .call { callee := .builtin .copy, args := #[s, x], argTypes := #[38, 38] })
    {g n dc m cc B : Nat} {e : TypeId} {cur : Array Value} {A : Option Addr} {l : List UInt8} (hs : a.eval s = .slice (some ⟨g, 0, none⟩) n dc) (hx : a.eval x = .slice A m cc) (hr : w.heap[g]? = some (.cells cur e (0, 0))) (hsrc : Rd w B 1 A m cc (u8s l)) (hn : n ≤ cur.size)
    (h : ∀ W : World, W.heap[g]? = some (.cells (u8s (l.take (min m n)) ++ cur.toList.drop (min m n)).toArray e (0, 0)) → w.grownBy W (some g) → Hid (W.heap.size = w.heap.size) → wpList Try.prog ops Q rest (a.put o.dst (goInt ((min m n : Nat) : Int))) W) :
    wpList Try.prog ops Q (o :: rest) a w := by
  refine wpList_plain hgd fun K hK => ?_
  have hrun := run_cpy hr hsrc hn o.type (dc := dc)
  unfold Oper.wp execOp
  simp only [ho, resolve, invoke, builtin, Sem.run_bind, Sem.run_pure, Result.andThen_ok, List.map_toArray, List.map_cons, List.map_nil, hs, hx, hrun]
  exact hK _ _ (h _ (setRow_heap w g cur _ e _ hr) ⟨rfl, rfl, rfl, by simp, fun k _ hk => setRow_other w g k _ (fun e => hk (by rw [e]))⟩ (Lib.hid (by simp)))

def Dv.new (n : Nat) : Dv := { n := n, S := fun _ => Z, ws := [], down := false, fuse := 0, done := 0 }
theorem Dv.new_ok (n : Nat) (h : n ≤ 65536) : (Dv.new n).Ok := ⟨h, fun _ => rfl, (fun p hp => by cases hp), (show (0 : Nat) < 18446744073709551616 by omega)⟩
set_option maxRecDepth 8000 in
theorem new_good (n : Nat) (w : World) (h1 : 1 ≤ n) (hn : n ≤ 65536) :
    Calls Try.prog 7 #[.int .i64 (n : Int)] w fun e w' => ∃ F g, e = .returned (.pointer (some ⟨g, 0, none⟩)) ∧ Dvc w' w.heap.size g F (Dv.new n) ∧ Below w.heap.size w w' := by
  have d1 : decide ((n : Int) < 1) = false := by simp; omega
  have d2 : decide ((65536 : Int) < (n : Int)) = false := by simp; omega
  obtain ⟨W, hW⟩ : ∃ W, W = ((w.alloc (.map #[] 0)).alloc (.map #[] 0)).alloc (.cells #[.int .i64 (n : Int), .map (some w.heap.size), .slice none 0 0, .map (some (w.heap.size + 1)), .bool false, .int .u64 0, .int .i64 0] 74) := ⟨_, rfl⟩
  have hg := heap_alloc_new ((w.alloc (.map #[] 0)).alloc (.map #[] 0)) (.cells #[.int .i64 (n : Int), .map (some w.heap.size), .slice none 0 0, .map (some (w.heap.size + 1)), .bool false, .int .u64 0, .int .i64 0] 74)
  rw [← hW] at hg
  have hz2 : ((w.alloc (.map #[] 0)).alloc (.map #[] 0)).heap.size = w.heap.size + 2 := by simp
  rw [hz2] at hg
  have hnz : nz (Dv.new n).S = fun _ => none := by funext x; unfold nz Dv.new; simp
  have ms : MapI Try.prog 3 W w.heap.size 0 (nz (Dv.new n).S) := by
    rw [hnz, hW]
    exact ((mapI_made w).kept (World.grownBy_alloc _ _ none) (fun e => by cases e)).kept (World.grownBy_alloc _ _ none) (fun e => by cases e)
  have ml : MapI Try.prog 3 W (w.heap.size + 1) 0 (lastOf (Dv.new n).ws) := by
    rw [hW]
    have := mapI_made (P := Try.prog) (k := 3) (w.alloc (.map #[] 0))
    rw [show (w.alloc (.map #[] 0)).heap.size = w.heap.size + 1 from by simp] at this
    exact this.kept (World.grownBy_alloc _ _ none) (fun e => by cases e)
  have hb : Below w.heap.size w W := by rw [hW]; exact (((Below.refl _ _).alloc (Nat.le_refl _) _).alloc (by simp) _).alloc (by simp; omega) _
  have hdev : Dev W w.heap.size (w.heap.size + 2) w.heap.size (w.heap.size + 1) (.slice none 0 0) 0 (Dv.new n) :=
    ⟨hg, ms, ml, World.ownsRow_nil _ _ _ _, by omega, by omega, by omega, (fun k e => by cases e), by omega, by omega, by omega, Dv.new_ok n hn⟩
  have HD := Lib.hid hdev
  have HB := Lib.hid hb
  have HW := Lib.hid hW
  have hmm := @run_makeMap Try.prog
  clear hdev hb ms ml hnz hz2 hg hW h1 hn
  go_enter Try.func7, Try.ntmps7
  go_wp2
  rw [← HW.out]
  go_ret
  exact ⟨_, w.heap.size + 2, rfl, ⟨_, _, _, 0, HD.out, Nat.le_refl _, fun i => Iff.rfl⟩, HB.out⟩

end Go.Proofs.Ytddnjlnhnnpgiaa

namespace Go.Proofs.Ytddnjlnhnnpgiaa
set_option maxRecDepth 20000
open Go.RowKit

theorem ite_ok {c : Prop} [Decidable c] {A B : Prop} (h : c) (k : A) : if c then A else B := by rw [if_pos h]; exact k
section
variable {P : Program} {ops : Array Oper} {C : World → Prop} {o : Oper} {rest : List Oper} {a : Act} {w : World} {Q : Exit → Act → World → Prop}
/-- An operation that runs to a value. -/
theorem wp_run {K : Act → World → Prop} {v : Value} {w' : World} (hrun : (execOp a.eval o).run P w = .ok (.value v) w') (h : K (a.put o.dst v) w') : o.wp P a w K Q := by
  unfold Oper.wp
  rw [hrun]
  exact h
theorem wp_skip {K : Act → World → Prop} {w' : World} (hrun : (execOp a.eval o).run P w = .ok .skip w') (h : K (a.put o.dst undef) w') : o.wp P a w K Q := by
  unfold Oper.wp
  rw [hrun]
  exact h
theorem wp_load1 {K : Act → World → Prop} (ty : TypeId) (x : Operand) (ho : o.op = .load ty x) {p v : Value} (hx : a.eval x = p) (hrun : (Instr.loadAt ty p).run P w = .ok v w) (h : K (a.put o.dst v) w) : o.wp P a w K Q :=
  wp_run (by simp only [execOp, ho, hx, Sem.run_bind, hrun, Result.andThen_ok, Sem.run_pure]) h
theorem wp_bslice {K : Act → World → Prop} (ty : TypeId) (n : Nat) (x : Operand) (ho : o.op = .buildSlice ty n #[(0, x)]) {p v : Value} {w' : World} (hx : a.eval x = p) (hrun : (Instr.buildSlice ty n #[(0, p)]).run P w = .ok v w') (h : K (a.put o.dst v) w') : o.wp P a w K Q :=
  wp_run (by simp only [execOp, ho, List.map_toArray, List.map_cons, List.map_nil, hx, Sem.run_bind, hrun, Result.andThen_ok, Sem.run_pure]) h
theorem wp_store1 {K : Act → World → Prop} (ty : TypeId) (x y : Operand) (ho : o.op = .store ty x y) {p q : Value} {w' : World} (hx : a.eval x = p) (hy : a.eval y = q) (hrun : (Instr.storeAt ty p q).run P w = .ok () w') (h : K (a.put o.dst undef) w') : o.wp P a w K Q :=
  wp_skip (by simp only [execOp, ho, hx, hy, Sem.run_bind, hrun, Result.andThen_ok, Sem.run_pure]) h
theorem wp_update {K : Act → World → Prop} (ty : TypeId) (x y z : Operand) (ho : o.op = .mapUpdate ty x y z) {p q r : Value} {w' : World} (hx : a.eval x = p) (hy : a.eval y = q) (hz : a.eval z = r) (hrun : (Instr.mapUpdate ty p q r).run P w = .ok () w') (h : K (a.put o.dst undef) w') : o.wp P a w K Q :=
  wp_skip (by simp only [execOp, ho, hx, hy, hz, Sem.run_bind, hrun, Result.andThen_ok, Sem.run_pure]) h
theorem wpQ_build {K : Act → Prop} (hgd : o.guard = none) (ty : TypeId) (x y : Operand) (ho : o.op = .build ty #[(0, x), (1, y)]) {p q v : Value} (hx : a.eval x = p) (hy : a.eval y = q) (hrun : ∀ w, (Instr.build ty #[(0, p), (1, q)]).run P w = .ok v w) (h : wpQuiet P ops C K rest (a.put o.dst v)) : wpQuiet P ops C K (o :: rest) a :=
  wpQ_val hgd v (fun w hw => by simp [execOp, ho, hx, hy, hrun w, Result.andThen]) h
/-- append, at its operation. -/
theorem wp_app {K : Act → World → Prop} (s x : Operand) (t tx : TypeId)
    (ho : o.op = .call { callee := .builtin .append, args := #[s, x], argTypes := #[t, tx] })
    {base m n sz bt : Nat} {e : TypeId} {z v y : Value} {xs news : List Value} (hT : Elem P t e z sz bt) (hs : a.eval s = v) (hx : a.eval x = y) (hown : w.ownsRow base e sz v n xs) (hsrc : Src P sz tx y m news w)
    (h63 : n + m ≤ maxLen) (hbytes : (n + m) * bt ≤ 140737488355328) (hbase : base ≤ w.heap.size)
    (h : ∀ v' w', w'.ownsRow base e sz v' (n + m) (xs ++ news) → w.grownBy w' v.ownBlock → (v'.ownBlock = v.ownBlock ∨ v'.ownBlock = some w.heap.size) → K (a.put o.dst v') w') : o.wp P a w K Q := by
  obtain ⟨v', w', hr, h1, h2, h3⟩ := run_app (ty := o.type) hT hown hsrc h63 hbytes hbase
  unfold Oper.wp execOp
  simp only [ho, resolve, invoke, builtin, Sem.run_bind, Sem.run_pure, Result.andThen_ok, List.map_toArray, List.map_cons, List.map_nil, hs, hx, hr]
  exact h _ _ h1 h2 h3
/-- A drawn region as a tree, in which no block but those of F turns. -/
theorem wp_treeF {id : Nat} {l : List Oper} (F : Nat → Prop) (t : Seg) (hm : P.follows .mixedOrders = true)
    (hok : (Region.noSelect l.toArray && (t.ok .any l.toArray (Array.replicate l.toArray.size false) && decide (t.steps ≤ l.toArray.size))) = true)
    (hQ : ∀ (d : Option Tmp) v c a w, Q (.panic c) (a.put d v) w → Q (.panic c) a w) (h : ∀ wd, Below w.heap.size w wd → wpTree P l.toArray Q (fun x => Keeps F w x) t a wd) : (Code.region id l.toArray true).wp P Q a w := by
  simp only [Bool.and_eq_true, decide_eq_true_eq] at hok
  exact wp_region_held hm (tree_sound hok.1 hQ t _ _ a _ hok.2.1 hok.2.2 (Keeps.refl _ _).drew (h _ (Below.refl _ _).drew))
end

theorem load_waits {w : World} {g : Nat} {v : Value} (h : w.cell? ⟨g, 2, none⟩ = some v) : (Instr.loadAt 72 (.pointer (some ⟨g, 2, none⟩))).run Try.prog w = .ok v w := by
  have hl : (loadVar 72 ⟨g, 2, none⟩).run Try.prog w = .ok v w := by go_simp
  simp only [Instr.loadAt, Instr.sureAddr, Sem.run_bind, Sem.run_pure, Result.andThen_ok, hl]
theorem store_waits {w : World} {g : Nat} {cs : Array Value} {e : TypeId} (h : w.heap[g]? = some (.cells cs e (0, 0))) (hc : cs.size = 7) (A : Option Addr) (n c : Nat) : (Instr.storeAt 72 (.pointer (some ⟨g, 2, none⟩)) (.slice A n c)).run Try.prog w = .ok () (w.setCell ⟨g, 2, none⟩ (.slice A n c)) := by
  have c2 : w.cell? ⟨g, 2, none⟩ = some cs[2] := by rw [cell_of_row w g 2 cs e (0, 0) h]; exact Array.getElem?_eq_getElem (by omega)
  have f2 := frozen_of_row w g 2 cs e h
  go_simp
/-- A sector's bytes, out of a part. -/
def pad (l : List UInt8) : List UInt8 := l ++ Z.drop l.length
theorem pad_len (l : List UInt8) (h : l.length ≤ 64) : (pad l).length = 64 := by unfold pad; rw [List.length_append, List.length_drop, Z_len]; omega
def Dv.chg (d : Dv) (p : Int × List UInt8) : Dv := { d with ws := d.ws ++ [p] }
theorem Dv.Ok.chg {d : Dv} (h : d.Ok) (p : Int × List UInt8) (hp : p.2.length = 64 ∧ 0 ≤ p.1 ∧ p.1 < d.n) : (d.chg p).Ok :=
  ⟨h.n, h.S, (fun q hq => by rcases List.mem_append.1 hq with h1 | h1; exact h.ws q h1; obtain rfl := List.mem_singleton.1 h1; exact hp), h.fuse⟩
theorem rd_chg {w : World} {g : Nat} {e : TypeId} {p : Int × List UInt8} (h : w.heap[g]? = some (.cells (chg p).toArray e (0, 0))) (hp : p.2.length = 64) : Rd w w.heap.size 65 (some ⟨g, 0, none⟩) 1 1 (chg p) :=
  ⟨Nat.le_refl _, by unfold maxLen; omega, by rw [chg_len p hp], fun _ => ⟨g, 0, rfl, (Array.getElem?_eq_some_iff.1 h).1, fun j u hu => by
    rw [cell_of_row w g (0 + j) _ e (0, 0) h]
    simpa using hu⟩⟩

set_option maxHeartbeats 4000000 in
set_option maxRecDepth 8000 in
theorem change_any {w : World} {B g bs bl k : Nat} {v : Value} {d : Dv} (h : Dev w B g bs bl v k d) (hdn : d.done ≤ 900000000) (hwl : d.ws.length ≤ 1000000) (x : Int) (hx0 : 0 ≤ x) (hxn : x < d.n) (A : Option Addr) (n c : Nat) (l : List UInt8) (hl : Rd w w.heap.size 1 A n c (u8s l)) (hn : n ≤ 64) :
    Calls Try.prog 64 #[.pointer (some ⟨g, 0, none⟩), .int .i64 x, .slice A n c] w fun e w' => e = .returned (.int .i64 (pw (d.chg (x, pad l)).step.down)) ∧ ∃ v', Dev w' B g bs bl v' k (d.chg (x, pad l)).step ∧ Keeps (Foot g bs bl v) w w' ∧ (v'.ownBlock = v.ownBlock ∨ ∀ q, v'.ownBlock = some q → w.heap.size ≤ q) := by
  have hln : l.length = n := by have := hl.len; rwa [u8s_len] at this
  have hp64 := pad_len l (by omega)
  have hBw : B ≤ w.heap.size := Nat.le_trans h.hg (Nat.le_of_lt h.lt)
  have hpad : ((u8s (l.take (min n 64)) ++ (u8s Z).toArray.toList.drop (min n 64)) : List Value) = u8s (pad l) := by
    have e1 : min n 64 = l.length := by omega
    rw [e1, List.take_of_length_le (Nat.le_refl _)]
    unfold pad
    rw [u8s_app, u8s_drop]
  obtain ⟨s, hs⟩ : ∃ s, s = pad l := ⟨_, rfl⟩
  rw [← hs] at hp64 hpad
  rw [← hs]
  have HP := Lib.hid hp64
  have HPD := Lib.hid hpad
  have HH := Lib.hid h
  have HL := Lib.hid hl
  have HN := Lib.hid hn
  have hxk : Key x := by have := h.ok.n; unfold Key; omega
  have HXK := Lib.hid hxk
  have hgl : g < w.heap.size := h.lt
  have hbl : bl < w.heap.size := h.last.lt
  have hbs : bs < w.heap.size := h.safe.lt
  have hDN := Lib.hid hdn
  have hWL := Lib.hid hwl
  have HX := Lib.hid (And.intro hx0 hxn)
  clear hp64 hpad hs hl hln hn hxk hdn hwl hx0 hxn h
  go_enter Try.func64, Try.ntmps64
  go_wp2_with (first
    | (refine wpL_new rfl rfl ?_; intro W1 b1 hb1 hr1 hg1 hz1)
    | (refine wpL_cpy rfl (.tmp 8) (.tmp 9) rfl rfl rfl hr1 (HL.out.keep (fun b o hb => World.cell?_of_block (a := ⟨b, o, none⟩) (hg1.block b hb (fun e => by cases e)))) (Nat.le_refl 64) ?_
       intro W2 hr2 hg2 hz2
       rw [HPD.out] at hr2)
    | fail)
  have hD2 : Dev W2 B g bs bl v k d := (HH.out.new hg1).keeps (Keeps.one hg2) (fun i hi hf => by
    have := ((HH.out.new hg1).foot_lt hf).2
    have h1 := (HH.out.foot_lt (i := i) hf).2
    have := hb1.out
    omega)
  have hbne : ∀ i, Foot g bs bl v i → i ≠ b1 := fun i hf => by have h1 := (HH.out.foot_lt hf).2; have := hb1.out; omega
  have hK02 : Keeps (Foot g bs bl v) w W2 := ((Keeps.refl _ _).grown hg1 (fun k e => by cases e)).grown hg2 (fun k e => .inr (by have := Option.some.inj e; have := hb1.out; omega))
  refine wp_treeF (fun i => i = g ∨ v.ownBlock = some i) (.two [0, 1, 2, 3, 5, 6, 7] 4 8 (.one [] 8 (.one [] 9 (.one [10, 11] 12 (.fin [])))) (.one [] 4 (.one [] 9 (.one [10, 11] 12 (.fin []))))) (by kernel_rfl) (by kernel_rfl) (fun d _ _ _ _ h => by cases d <;> exact h) fun wd hbd => ?_
  have hFb1 : ¬ (b1 = g ∨ v.ownBlock = some b1) := by
    rintro (e | e)
    · exact hbne g (.inl rfl) e.symm
    · exact hbne b1 (.inr (.inr (.inr e))) rfl
  intro f hf
  have F1 : ∀ x, (∃ z, x = f z) → (Instr.loadAt 93 (.pointer (some ⟨b1, 0, none⟩))).run Try.prog x = .ok (secv s) x := by
    rintro x ⟨z, rfl⟩
    exact load_sec ((hf z).row hr2 hFb1) HP.out
  have HF1 := Lib.hid F1
  clear F1
  simp only [pickI, Option.toList_some, List.cons_append, List.nil_append, List.getElem?_toArray, List.getElem?_cons_succ, List.getElem?_cons_zero]
  iterate 5 go_big_quiet_step (fail)
  refine wpQ_load rfl _ (.tmp 7) rfl rfl HF1.out ?_
  go_frame
  refine wpQ_build rfl _ (.tmp 16) (.tmp 17) rfl rfl rfl (build_chg x s HP.out) ?_
  go_frame
  refine wpQuiet_nil ?_
  clear HF1 hf f
  have hDd := hD2.below hbd
  have c2d := hDd.c2
  have hKd : Keeps (fun i => i = g ∨ v.ownBlock = some i) W2 wd := Keeps.of_below hbd
  have hbs := buildSlice_chg (x, s) HP.out wd
  obtain ⟨W3, hW3⟩ : ∃ W3, W3 = wd.alloc (.cells (chg (x, s)).toArray 95) := ⟨_, rfl⟩
  obtain ⟨b3, hb3⟩ : ∃ b3, b3 = wd.heap.size := ⟨_, rfl⟩
  rw [← hW3, ← hb3] at hbs
  have hg3 : wd.grownBy W3 none := by rw [hW3]; exact World.grownBy_alloc _ _ _
  have hr3 : W3.heap[b3]? = some (.cells (chg (x, s)).toArray 95 (0, 0)) := by rw [hW3, hb3]; exact heap_alloc_new wd _
  have hK3 : Keeps (fun i => i = g ∨ v.ownBlock = some i) W2 W3 := hKd.grown hg3 (fun k e => by cases e)
  have hD3 := hDd.new hg3
  have c2e := hD3.c2
  have HB3 := Lib.hid hb3
  clear hW3 hb3
  have hrd3 := rd_chg hr3 HP.out
  have hBW3 : B ≤ W3.heap.size := Nat.le_trans hBw (Nat.le_trans hK02.size hK3.size)
  constructor
  · refine seg_op (by simp only [List.getElem?_toArray, List.getElem?_cons_succ, List.getElem?_cons_zero]; rfl) fun K hK => ?_
    refine ite_ok rfl ?_
    refine wp_load1 _ (.tmp 14) rfl rfl (load_waits c2d) ?_
    refine hK.out _ _ ⟨hKd, ?_⟩
    clear hK K
    go_frame
    intro f hf
    refine wpQuiet_nil ?_
    clear hf f
    refine seg_op (by simp only [List.getElem?_toArray, List.getElem?_cons_succ, List.getElem?_cons_zero]; rfl) fun K hK => ?_
    refine ite_ok rfl ?_
    refine wp_bslice _ 1 (.tmp 18) rfl rfl hbs ?_
    refine hK.out _ _ ⟨hK3, ?_⟩
    clear hK K
    go_frame

    intro f hf
    refine wpQuiet_nil ?_
    clear hf f
    refine seg_op (by simp only [List.getElem?_toArray, List.getElem?_cons_succ, List.getElem?_cons_zero]; rfl) fun K hK => ?_
    refine ite_ok rfl ?_
    refine wp_app (.tmp 15) (.tmp 19) _ _ rfl E_chg (m := 1) rfl rfl hD3.waits (hrd3.src Try.underlying72 (chg_one _)) (by have := hWL.out; unfold maxLen; omega) (by have := hWL.out; omega) (Nat.le_trans hBW3 (Nat.le_refl _)) ?_
    intro v4 W4 hown4 hg4 hat4
    have hK4 : Keeps (fun i => i = g ∨ v.ownBlock = some i) W2 W4 := hK3.grown hg4 (fun q e => .inl (.inr e))
    refine hK.out _ _ ⟨hK4, ?_⟩
    clear hK K
    go_frame
    intro f hf
    simp only [pickI, Option.toList_some, List.cons_append, List.nil_append, List.getElem?_toArray, List.getElem?_cons_succ, List.getElem?_cons_zero]
    iterate 2 go_big_quiet_step (fail)
    refine wpQuiet_nil ?_
    clear hf f
    have hrow4 := row_far hD3.row hg4 (fun e => (hD3.vg g e.symm).1 rfl)
    obtain ⟨A4, c4, rfl⟩ := ownsRow_form hown4
    have hst := store_waits hrow4 rfl A4 (d.ws.length + 1) c4
    have hrow5 := set_row hrow4 2 (.slice A4 (d.ws.length + 1) c4)
    have hg5 := setCell_grows W4 g 2 (.slice A4 (d.ws.length + 1) c4)
    generalize W4.setCell ⟨g, 2, none⟩ (.slice A4 (d.ws.length + 1) c4) = W5 at *
    refine seg_op (by simp only [List.getElem?_toArray, List.getElem?_cons_succ, List.getElem?_cons_zero]; rfl) fun K hK => ?_
    refine ite_ok rfl ?_
    refine wp_store1 _ (.tmp 22) (.tmp 20) rfl rfl rfl hst ?_
    have hK5 : Keeps (fun i => i = g ∨ v.ownBlock = some i) W2 W5 := hK4.grown hg5 (fun q e => .inl (.inl (Option.some.inj e).symm))
    refine hK.out _ _ ⟨hK5, ?_⟩
    clear hK K
    go_frame
    intro f hf
    refine wpQuiet_nil ?_
    clear hf f
    have hrow6 : W5.heap[g]? = some (.cells (devRow (d.chg (x, s)) bs bl (.slice A4 (d.ws.length + 1) c4)) 74 (0, 0)) := hrow5
    have hvl : some bl ≠ v.ownBlock := fun e => (hD3.vg bl e.symm).2.2 rfl
    have hvs : some bs ≠ v.ownBlock := fun e => (hD3.vg bs e.symm).2.1 rfl
    have hml := (hD3.last.kept hg4 hvl).kept hg5 (fun e => hD3.gl (Option.some.inj e).symm)
    have hms := (hD3.safe.kept hg4 hvs).kept hg5 (fun e => hD3.gs (Option.some.inj e).symm)
    have hown5 := hown4.kept hg5 (by
      cases hq : Value.ownBlock (.slice A4 (d.ws.length + 1) c4) with
      | none => exact .inl rfl
      | some q =>
        refine .inr (fun e => ?_)
        have e1 := Option.some.inj e
        rcases hat4 with h1 | h1
        · exact (hD3.vg q (h1 ▸ hq)).1 e1
        · rw [hq] at h1
          have := Option.some.inj h1
          have := hD3.lt
          omega)
    have hb15 := hK5.row hr2 hFb1
    have hlt5 : bl < W5.heap.size := hml.lt
    have hglt5 : g < W5.heap.size := (Array.getElem?_eq_some_iff.1 hrow6).1
    have c35 : W5.cell? ⟨g, 3, none⟩ = some (.map (some bl)) := cell_of_row W5 g 3 _ _ _ hrow6
    have hgl' := hD3.gl
    have hb1l : b1 ≠ bl := fun e => hbne bl (.inr (.inr (.inl rfl))) e.symm
    have HOWN := Lib.hid hown5
    have HROW := Lib.hid hrow6
    have HMS := Lib.hid hms
    have HAT := Lib.hid hat4
    clear hown5 hrow6 hms hat4 hrow5 hrow4 hg4 hown4
    go_wp2
    refine wp_keeps (fun i => i = bl) [([0, 1, 2, 3, 4, 5], 6)] [] (by kernel_rfl) (by kernel_rfl) (fun d _ _ _ _ h => by cases d <;> exact h) fun we hbe => ?_
    intro f hf
    have F1 : ∀ x, (∃ z, x = f z) → (Instr.loadAt 93 (.pointer (some ⟨b1, 0, none⟩))).run Try.prog x = .ok (secv s) x := by
      rintro x ⟨z, rfl⟩
      exact load_sec ((hf z).row hb15 hb1l) HP.out
    have HF1 := Lib.hid F1
    clear F1
    have F2 := fun z => (hf z).cell c35 hgl'
    simp only [pickI, Option.toList_some, List.cons_append, List.nil_append, List.getElem?_toArray, List.getElem?_cons_succ, List.getElem?_cons_zero]
    iterate 5 go_big_quiet_step (fail)
    refine wpQ_load rfl _ (.tmp 7) rfl rfl HF1.out ?_
    go_frame
    refine wpQuiet_nil ?_
    clear HF1 F2 hf f
    have hml6 := hml.same (hbe.block bl hlt5)
    obtain ⟨W6, hput, hm6, hg6, hz6⟩ := hml6.put Try.underlying3 Try.underlying71 (by have := hWL.out; unfold maxLen; omega) x HXK.out s HP.out
    have hD6 : Dev W6 B g bs bl (.slice A4 (d.ws.length + 1) c4) k (d.chg (x, s)) := by
      have hlen : (d.chg (x, s)).ws.length = d.ws.length + 1 := by unfold Dv.chg; simp
      have hbw : ∀ {i : Nat} {o : Obj}, i ≠ bl → W5.heap[i]? = some o → W6.heap[i]? = some o := fun hi ho => row_far (row_below ho hbe) hg6 (fun e => hi (Option.some.inj e))
      have hnew : ∀ q, Value.ownBlock (.slice A4 (d.ws.length + 1) c4) = some q → q ≠ g ∧ q ≠ bs ∧ q ≠ bl := by
        intro q hq
        rcases HAT.out with h1 | h1
        · exact hD3.vg q (h1 ▸ hq)
        · rw [hq] at h1
          have e1 := Option.some.inj h1
          have := hD3.lt
          have := hD3.safe.lt
          have := hD3.last.lt
          omega
      refine ⟨hbw hgl' HROW.out, ?_, ?_, ?_, hD3.gs, hD3.gl, hD3.sl, hnew, hD3.hg, hD3.hs, hD3.hl, hD3.ok.chg (x, s) ⟨HP.out, HX.out.1, HX.out.2⟩⟩
      · exact (HMS.out.same (hbe.block bs HMS.out.lt)).kept hg6 (fun e => hD3.sl (Option.some.inj e))
      · rw [hlen]
        unfold Dv.chg
        rw [lastOf_snoc]
        exact hm6
      · rw [hlen]
        unfold Dv.chg
        rw [chgs_snoc]
        exact (ownsRow_bel HOWN.out hbe).kept hg6 (by
          cases hq : Value.ownBlock (.slice A4 (d.ws.length + 1) c4) with
          | none => exact .inl rfl
          | some q => exact .inr (fun e => (hnew q hq).2.2 (Option.some.inj e)))
    have HD6 := Lib.hid hD6
    have HK6 := Lib.hid ((Keeps.of_below (F := fun i => i = bl) hbe).trans (Keeps.one hg6) (fun i hi => .inl hi))
    clear hD6 hm6 hz6 hml6
    refine seg_op (by simp only [List.getElem?_toArray, List.getElem?_cons_succ, List.getElem?_cons_zero]; rfl) fun K hK => ?_
    refine ite_ok rfl ?_
    refine wp_update _ (.tmp 26) (.tmp 27) (.tmp 28) rfl rfl rfl rfl hput ?_
    refine hK.out _ _ (seg_keep HK6.out ?_)
    clear hK K
    go_frame
    intro f hf
    refine wpQuiet_nil ?_
    clear hf f
    have hst := step_any HD6.out (show (d.chg (x, s)).done ≤ 1000000000 from by have := hDN.out; exact Nat.le_trans this (by omega))
    have HST := Lib.hid hst
    clear hst hput
    go_wp2_with (go_at_call 65; refine HST.out.mono ?_; rintro e w9 ⟨rfl, hD9, hg9⟩)
    go_ret
    have hFF : ∀ i, (i = g ∨ v.ownBlock = some i) → Foot g bs bl v i ∨ w.heap.size ≤ i := fun i hi => hi.elim (fun e => .inl (.inl e)) (fun e => .inl (.inr (.inr (.inr e))))
    have hK05 := hK02.trans hK5 hFF
    have hK06 := hK05.trans HK6.out (fun i hi => .inl (.inr (.inr (.inl hi))))
    have hK09 := hK06.grown hg9 (fun q e => .inl (.inl (Option.some.inj e).symm))
    refine ⟨rfl, _, hD9, hK09, ?_⟩
    rcases HAT.out with h1 | h1
    · exact .inl h1
    · refine .inr (fun q hq => ?_)
      rw [h1] at hq
      have := Option.some.inj hq
      have := hK02.size
      have := hK3.size
      omega
  · refine seg_op (by simp only [List.getElem?_toArray, List.getElem?_cons_succ, List.getElem?_cons_zero]; rfl) fun K hK => ?_
    refine ite_ok rfl ?_
    refine wp_bslice _ 1 (.tmp 18) rfl rfl hbs ?_
    refine hK.out _ _ ⟨hK3, ?_⟩
    clear hK K
    go_frame
    intro f hf
    refine wpQuiet_nil ?_
    clear hf f
    refine seg_op (by simp only [List.getElem?_toArray, List.getElem?_cons_succ, List.getElem?_cons_zero]; rfl) fun K hK => ?_
    refine ite_ok rfl ?_
    refine wp_load1 _ (.tmp 14) rfl rfl (load_waits c2e) ?_
    refine hK.out _ _ ⟨hK3, ?_⟩
    clear hK K
    go_frame

    intro f hf
    refine wpQuiet_nil ?_
    clear hf f
    refine seg_op (by simp only [List.getElem?_toArray, List.getElem?_cons_succ, List.getElem?_cons_zero]; rfl) fun K hK => ?_
    refine ite_ok rfl ?_
    refine wp_app (.tmp 15) (.tmp 19) _ _ rfl E_chg (m := 1) rfl rfl hD3.waits (hrd3.src Try.underlying72 (chg_one _)) (by have := hWL.out; unfold maxLen; omega) (by have := hWL.out; omega) (Nat.le_trans hBW3 (Nat.le_refl _)) ?_
    intro v4 W4 hown4 hg4 hat4
    have hK4 : Keeps (fun i => i = g ∨ v.ownBlock = some i) W2 W4 := hK3.grown hg4 (fun q e => .inl (.inr e))
    refine hK.out _ _ ⟨hK4, ?_⟩
    clear hK K
    go_frame
    intro f hf
    simp only [pickI, Option.toList_some, List.cons_append, List.nil_append, List.getElem?_toArray, List.getElem?_cons_succ, List.getElem?_cons_zero]
    iterate 2 go_big_quiet_step (fail)
    refine wpQuiet_nil ?_
    clear hf f
    have hrow4 := row_far hD3.row hg4 (fun e => (hD3.vg g e.symm).1 rfl)
    obtain ⟨A4, c4, rfl⟩ := ownsRow_form hown4
    have hst := store_waits hrow4 rfl A4 (d.ws.length + 1) c4
    have hrow5 := set_row hrow4 2 (.slice A4 (d.ws.length + 1) c4)
    have hg5 := setCell_grows W4 g 2 (.slice A4 (d.ws.length + 1) c4)
    generalize W4.setCell ⟨g, 2, none⟩ (.slice A4 (d.ws.length + 1) c4) = W5 at *
    refine seg_op (by simp only [List.getElem?_toArray, List.getElem?_cons_succ, List.getElem?_cons_zero]; rfl) fun K hK => ?_
    refine ite_ok rfl ?_
    refine wp_store1 _ (.tmp 22) (.tmp 20) rfl rfl rfl hst ?_
    have hK5 : Keeps (fun i => i = g ∨ v.ownBlock = some i) W2 W5 := hK4.grown hg5 (fun q e => .inl (.inl (Option.some.inj e).symm))
    refine hK.out _ _ ⟨hK5, ?_⟩
    clear hK K
    go_frame
    intro f hf
    refine wpQuiet_nil ?_
    clear hf f
    have hrow6 : W5.heap[g]? = some (.cells (devRow (d.chg (x, s)) bs bl (.slice A4 (d.ws.length + 1) c4)) 74 (0, 0)) := hrow5
    have hvl : some bl ≠ v.ownBlock := fun e => (hD3.vg bl e.symm).2.2 rfl
    have hvs : some bs ≠ v.ownBlock := fun e => (hD3.vg bs e.symm).2.1 rfl
    have hml := (hD3.last.kept hg4 hvl).kept hg5 (fun e => hD3.gl (Option.some.inj e).symm)
    have hms := (hD3.safe.kept hg4 hvs).kept hg5 (fun e => hD3.gs (Option.some.inj e).symm)
    have hown5 := hown4.kept hg5 (by
      cases hq : Value.ownBlock (.slice A4 (d.ws.length + 1) c4) with
      | none => exact .inl rfl
      | some q =>
        refine .inr (fun e => ?_)
        have e1 := Option.some.inj e
        rcases hat4 with h1 | h1
        · exact (hD3.vg q (h1 ▸ hq)).1 e1
        · rw [hq] at h1
          have := Option.some.inj h1
          have := hD3.lt
          omega)
    have hb15 := hK5.row hr2 hFb1
    have hlt5 : bl < W5.heap.size := hml.lt
    have hglt5 : g < W5.heap.size := (Array.getElem?_eq_some_iff.1 hrow6).1
    have c35 : W5.cell? ⟨g, 3, none⟩ = some (.map (some bl)) := cell_of_row W5 g 3 _ _ _ hrow6
    have hgl' := hD3.gl
    have hb1l : b1 ≠ bl := fun e => hbne bl (.inr (.inr (.inl rfl))) e.symm
    have HOWN := Lib.hid hown5
    have HROW := Lib.hid hrow6
    have HMS := Lib.hid hms
    have HAT := Lib.hid hat4
    clear hown5 hrow6 hms hat4 hrow5 hrow4 hg4 hown4
    go_wp2
    refine wp_keeps (fun i => i = bl) [([0, 1, 2, 3, 4, 5], 6)] [] (by kernel_rfl) (by kernel_rfl) (fun d _ _ _ _ h => by cases d <;> exact h) fun we hbe => ?_
    intro f hf
    have F1 : ∀ x, (∃ z, x = f z) → (Instr.loadAt 93 (.pointer (some ⟨b1, 0, none⟩))).run Try.prog x = .ok (secv s) x := by
      rintro x ⟨z, rfl⟩
      exact load_sec ((hf z).row hb15 hb1l) HP.out
    have HF1 := Lib.hid F1
    clear F1
    have F2 := fun z => (hf z).cell c35 hgl'
    simp only [pickI, Option.toList_some, List.cons_append, List.nil_append, List.getElem?_toArray, List.getElem?_cons_succ, List.getElem?_cons_zero]
    iterate 5 go_big_quiet_step (fail)
    refine wpQ_load rfl _ (.tmp 7) rfl rfl HF1.out ?_
    go_frame
    refine wpQuiet_nil ?_
    clear HF1 F2 hf f
    have hml6 := hml.same (hbe.block bl hlt5)
    obtain ⟨W6, hput, hm6, hg6, hz6⟩ := hml6.put Try.underlying3 Try.underlying71 (by have := hWL.out; unfold maxLen; omega) x HXK.out s HP.out
    have hD6 : Dev W6 B g bs bl (.slice A4 (d.ws.length + 1) c4) k (d.chg (x, s)) := by
      have hlen : (d.chg (x, s)).ws.length = d.ws.length + 1 := by unfold Dv.chg; simp
      have hbw : ∀ {i : Nat} {o : Obj}, i ≠ bl → W5.heap[i]? = some o → W6.heap[i]? = some o := fun hi ho => row_far (row_below ho hbe) hg6 (fun e => hi (Option.some.inj e))
      have hnew : ∀ q, Value.ownBlock (.slice A4 (d.ws.length + 1) c4) = some q → q ≠ g ∧ q ≠ bs ∧ q ≠ bl := by
        intro q hq
        rcases HAT.out with h1 | h1
        · exact hD3.vg q (h1 ▸ hq)
        · rw [hq] at h1
          have e1 := Option.some.inj h1
          have := hD3.lt
          have := hD3.safe.lt
          have := hD3.last.lt
          omega
      refine ⟨hbw hgl' HROW.out, ?_, ?_, ?_, hD3.gs, hD3.gl, hD3.sl, hnew, hD3.hg, hD3.hs, hD3.hl, hD3.ok.chg (x, s) ⟨HP.out, HX.out.1, HX.out.2⟩⟩
      · exact (HMS.out.same (hbe.block bs HMS.out.lt)).kept hg6 (fun e => hD3.sl (Option.some.inj e))
      · rw [hlen]
        unfold Dv.chg
        rw [lastOf_snoc]
        exact hm6
      · rw [hlen]
        unfold Dv.chg
        rw [chgs_snoc]
        exact (ownsRow_bel HOWN.out hbe).kept hg6 (by
          cases hq : Value.ownBlock (.slice A4 (d.ws.length + 1) c4) with
          | none => exact .inl rfl
          | some q => exact .inr (fun e => (hnew q hq).2.2 (Option.some.inj e)))
    have HD6 := Lib.hid hD6
    have HK6 := Lib.hid ((Keeps.of_below (F := fun i => i = bl) hbe).trans (Keeps.one hg6) (fun i hi => .inl hi))
    clear hD6 hm6 hz6 hml6
    refine seg_op (by simp only [List.getElem?_toArray, List.getElem?_cons_succ, List.getElem?_cons_zero]; rfl) fun K hK => ?_
    refine ite_ok rfl ?_
    refine wp_update _ (.tmp 26) (.tmp 27) (.tmp 28) rfl rfl rfl rfl hput ?_
    refine hK.out _ _ (seg_keep HK6.out ?_)
    clear hK K
    go_frame
    intro f hf
    refine wpQuiet_nil ?_
    clear hf f
    have hst := step_any HD6.out (show (d.chg (x, s)).done ≤ 1000000000 from by have := hDN.out; exact Nat.le_trans this (by omega))
    have HST := Lib.hid hst
    clear hst hput
    go_wp2_with (go_at_call 65; refine HST.out.mono ?_; rintro e w9 ⟨rfl, hD9, hg9⟩)
    go_ret
    have hFF : ∀ i, (i = g ∨ v.ownBlock = some i) → Foot g bs bl v i ∨ w.heap.size ≤ i := fun i hi => hi.elim (fun e => .inl (.inl e)) (fun e => .inl (.inr (.inr (.inr e))))
    have hK05 := hK02.trans hK5 hFF
    have hK06 := hK05.trans HK6.out (fun i hi => .inl (.inr (.inr (.inl hi))))
    have hK09 := hK06.grown hg9 (fun q e => .inl (.inl (Option.some.inj e).symm))
    refine ⟨rfl, _, hD9, hK09, ?_⟩
    rcases HAT.out with h1 | h1
    · exact .inl h1
    · refine .inr (fun q hq => ?_)
      rw [h1] at hq
      have := Option.some.inj hq
      have := hK02.size
      have := hK3.size
      omega

end Go.Proofs.Ytddnjlnhnnpgiaa

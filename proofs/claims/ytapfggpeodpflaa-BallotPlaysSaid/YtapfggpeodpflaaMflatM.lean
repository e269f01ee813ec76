/- Entries loaded and stored whole. The reference: all entries in one row; what is void. -/
import Derived.Test.YtapfggpeodpflaaMvoidM
import Derived.Deep.MidRow
import Derived.Great.BuildSlice
import Derived.Laws.Tables
namespace Go.Proofs.Ytapfggpeodpflaa
open Go.RowKit
set_option maxRecDepth 20000

def NewR (w : World) (ty : TypeId) (cs : Array Value) (W : World) (b : Nat) : Prop := Hid (b = w.heap.size) ∧ Hid (W.heap[b]? = some (.cells cs ty (0, 0))) ∧ Below w.heap.size w W ∧ Hid (W.heap.size = b + 1)
theorem newR (w : World) (ty : TypeId) (cs : Array Value) : NewR w ty cs (w.alloc (.cells cs ty)) w.heap.size :=
  ⟨Lib.hid rfl, Lib.hid (heap_alloc_new w _), (Below.refl _ _).alloc (Nat.le_refl _) _, Lib.hid (by simp)⟩
/-- No entry. -/
abbrev Ez : En := enNil
theorem e_one (e : En) : ∀ v ∈ e.cells.toList, v.oneCell' = true := by
  unfold En.cells
  intro v hv
  simp only [List.mem_cons, List.not_mem_nil, or_false] at hv
  rcases hv with rfl | rfl | rfl | rfl | rfl | rfl | rfl | rfl | rfl | rfl <;> rfl
theorem e_size : (Try.prog.info? 55).map (·.size) = some 10 := by kernel_rfl
theorem ens_one (es : List En) : ∀ v ∈ ens es, v.oneCell' = true := by
  intro v hv
  unfold ens at hv
  obtain ⟨e, _, h⟩ := List.mem_flatMap.1 hv
  exact e_one e v h
theorem ens_app (a b : List En) : ens (a ++ b) = ens a ++ ens b := by simp [ens]
theorem E_en : Elem Try.prog 23 55 (.agg Ez.cells) 10 96 := Elem.mk_ Try.underlying23 (by kernel_rfl) rfl (by decide)
theorem e_loads {w : World} {p : Nat} {e : En} (h : ERow w p e) : (Instr.loadAt 55 (.pointer (some ⟨p, 0, none⟩))).run Try.prog w = .ok (.agg e.cells) w :=
  run_loadAt_mid w p 0 _ e.cells.toList _ (fun j v hv => by rw [Nat.zero_add, cell_of_row w p j _ _ _ h]; simpa using hv) Try.underlying55 rfl e_size
theorem ents_loads {w : World} {b o n c i : Nat} {es : List En} {e : En} (h : Ents w (some ⟨b, o, none⟩) n c es) (hi : es[i]? = some e) : (Instr.loadAt 55 (.pointer (some ⟨b, o + i * 10, none⟩))).run Try.prog w = .ok (.agg e.cells) w := by
  obtain ⟨b', o', hA, hb, hc⟩ := h.rd.2.2.2 (by have := (List.getElem?_eq_some_iff.1 hi).1; have := h.len; omega)
  cases hA
  exact run_loadAt_mid w b (o + i * 10) _ e.cells.toList _ (fun j v hv => by
    rw [Nat.add_assoc]
    exact hc _ _ (ens_get es i e hi j v (by simpa using hv))) Try.underlying55 rfl e_size

section
variable {w : World} {ops : Array Oper} {rest : List Oper} {o : Oper} {a : Act} {Q : Exit → Act → World → Prop}
theorem wpL_val {P : Program} (hw : Region.wanted o (yielded ops a.tmps) = true) (v : Value) (hrun : (execOp a.eval o).run P w = .ok (.value v) w) (h : wpList P ops Q rest (a.put o.dst v) w) : wpList P ops Q (o :: rest) a w := by
  refine wpList_step fun K hK => ?_
  rw [if_pos hw]
  unfold Oper.wp
  rw [hrun]
  exact hK _ _ h
theorem wpL_mids {P : Program} (hw : Region.wanted o (yielded ops a.tmps) = true) (ty : TypeId) (x : Operand) (ho : o.op = .load ty x) (p : Value) (hx : a.eval x = p) (V : Value) (hl : (Instr.loadAt ty p).run P w = .ok V w)
    (h : wpList P ops Q rest (a.put o.dst V) w) : wpList P ops Q (o :: rest) a w :=
  wpL_val hw _ (by simp only [execOp, ho, hx, hl, Sem.run_bind, Result.andThen_ok, Sem.run_pure]) h
theorem wpL_midk {P : Program} (hw : Region.wanted o (yielded ops a.tmps) = true) (ty : TypeId) (x : Operand) (ho : o.op = .load ty x) (p : Value) (hx : a.eval x = p) (V : Value) (hl : (Instr.loadAt ty p).run P w = .ok V w)
    (h : ∀ K : Act → World → Prop, (∀ a w, wpList P ops Q rest a w → K a w) → K (a.put o.dst V) w) : wpList P ops Q (o :: rest) a w :=
  wpL_mids hw ty x ho p hx V hl (h _ (fun _ _ h => h))
theorem e_stores {g : Nat} {t : TypeId} {d e : En} (hr : w.heap[g]? = some (.cells d.cells t (0, 0))) : (Instr.storeAt 55 (.pointer (some ⟨g, 0, none⟩)) (.agg e.cells)).run Try.prog w = .ok () (w.setRow g e.cells) := by
  simp only [Instr.storeAt, Instr.sureAddr, Sem.run_bind, Sem.run_pure, Result.andThen_ok]
  exact run_storeVar_row w g t 55 _ _ hr e_size rfl (by
    rw [Array.all_eq_true_iff_forall_mem]
    intro x hx
    exact e_one e x (by simpa using hx))
theorem wpL_estore (hgd : o.guard = none) (x y : Operand) (ho : o.op = .store 55 x y) {g : Nat} {t : TypeId} {d e : En} (hx : a.eval x = .pointer (some ⟨g, 0, none⟩)) (hy : a.eval y = .agg e.cells) (hr : w.heap[g]? = some (.cells d.cells t (0, 0)))
    (hk : ∀ W : World, Hid (W.heap[g]? = some (.cells e.cells t (0, 0))) → w.grownBy W (some g) → Hid (W.heap.size = w.heap.size) → wpList Try.prog ops Q rest (a.put o.dst undef) W) : wpList Try.prog ops Q (o :: rest) a w := by
  refine wpList_plain hgd fun K hK => ?_
  have hrun := e_stores (e := e) hr
  unfold Oper.wp
  simp only [execOp, ho, hx, hy, Sem.run_bind, hrun, Result.andThen_ok, Sem.run_pure]
  exact hK _ _ (hk _ (Lib.hid (setRow_heap w g _ _ t _ hr)) ⟨rfl, rfl, rfl, by simp, fun k _ hk => setRow_other w g k _ (fun e => hk (by rw [e]))⟩ (Lib.hid (by simp)))
/-- A store of one cell into its own box. -/
theorem wpL_ostore {P : Program} (hgd : o.guard = none) (ty : TypeId) (x y : Operand) (ho : o.op = .store ty x y) {g : Nat} {t : TypeId} {old v : Value} (hx : a.eval x = .pointer (some ⟨g, 0, none⟩)) (hy : a.eval y = v) (hr : w.heap[g]? = some (.cells #[old] t (0, 0))) (hi : (P.info? ty).map (·.size) = some 1) (h1 : v.oneCell' = true)
    (hk : ∀ W : World, Hid (W.heap[g]? = some (.cells #[v] t (0, 0))) → w.grownBy W (some g) → Hid (W.heap.size = w.heap.size) → wpList P ops Q rest (a.put o.dst undef) W) : wpList P ops Q (o :: rest) a w := by
  refine wpList_plain hgd fun K hK => ?_
  have hrun : (Instr.storeAt ty (.pointer (some ⟨g, 0, none⟩)) v).run P w = .ok () (w.setRow g #[v]) := by
    simp only [Instr.storeAt, Instr.sureAddr, Sem.run_bind, Sem.run_pure, Result.andThen_ok]
    exact run_storeVar_one w g t ty old v hr hi h1
  unfold Oper.wp
  simp only [execOp, ho, hx, hy, Sem.run_bind, hrun, Result.andThen_ok, Sem.run_pure]
  exact hK _ _ (hk _ (Lib.hid (setRow_heap w g _ _ t _ hr)) ⟨rfl, rfl, rfl, by simp, fun k _ hk => setRow_other w g k _ (fun e => hk (by rw [e]))⟩ (Lib.hid (by simp)))
theorem run_cstore {P : Program} {ty t : TypeId} {g j : Nat} {cs : List Value} {v : Value} (hr : w.heap[g]? = some (.cells cs.toArray t (0, 0))) (hj : j < cs.length) (hi : (P.info? ty).map (·.size) = some 1) (h1 : v.oneCell' = true) :
    (storeVar ty ⟨g, j, none⟩ v).run P w = .ok () (w.setRow g (cs.set j v).toArray) := by
  have := run_storeCells_at P g j t [v] 0 cs.toArray w hr (by simp; omega) (fun x hx => by simp at hx; subst hx; exact h1)
  have hc : v.cells = #[v] := by cases v <;> first | rfl | cases h1
  have he : cs.take j ++ [v] ++ cs.drop (j + 1) = cs.set j v := by rw [List.set_eq_take_append_cons_drop, if_pos hj]; simp
  simp only [Nat.add_zero, List.length_cons, List.length_nil, Nat.zero_add, he] at this
  cases hq : P.info? ty with
  | none => simp [hq] at hi
  | some i =>
    have hs : i.size = 1 := by simpa [hq] using hi
    simp [storeVar, sizeOf, typeInfo, hq, hc, hs, this]
/-- A store of one cell into a row. -/
theorem wpL_cstore {P : Program} (hgd : o.guard = none) (ty : TypeId) (x y : Operand) (ho : o.op = .store ty x y) {g j : Nat} {t : TypeId} {cs : List Value} {v : Value} (hx : a.eval x = .pointer (some ⟨g, j, none⟩)) (hy : a.eval y = v) (hr : w.heap[g]? = some (.cells cs.toArray t (0, 0))) (hj : j < cs.length) (hi : (P.info? ty).map (·.size) = some 1) (h1 : v.oneCell' = true)
    (hk : ∀ W : World, Hid (W.heap[g]? = some (.cells (cs.set j v).toArray t (0, 0))) → w.grownBy W (some g) → Hid (W.heap.size = w.heap.size) → wpList P ops Q rest (a.put o.dst undef) W) : wpList P ops Q (o :: rest) a w := by
  refine wpList_plain hgd fun K hK => ?_
  have hrun : (Instr.storeAt ty (.pointer (some ⟨g, j, none⟩)) v).run P w = .ok () (w.setRow g (cs.set j v).toArray) := by
    simp only [Instr.storeAt, Instr.sureAddr, Sem.run_bind, Sem.run_pure, Result.andThen_ok]
    exact run_cstore hr hj hi h1
  unfold Oper.wp
  simp only [execOp, ho, hx, hy, Sem.run_bind, hrun, Result.andThen_ok, Sem.run_pure]
  exact hK _ _ (hk _ (Lib.hid (setRow_heap w g _ _ t _ hr)) ⟨rfl, rfl, rfl, by simp, fun k _ hk => setRow_other w g k _ (fun e => hk (by rw [e]))⟩ (Lib.hid (by simp)))
theorem wpL_enew (hgd : o.guard = none) (ho : o.op = .alloc 55)
    (hk : ∀ (W : World) (b : Nat), NewR w 55 Ez.cells W b → wpList Try.prog ops Q rest (a.put o.dst (.pointer (some ⟨b, 0, none⟩))) W) : wpList Try.prog ops Q (o :: rest) a w := by
  refine wpList_plain hgd fun K hK => ?_
  have hr : (Instr.alloc 55 true (.tuple #[])).run Try.prog w = .ok (.pointer (some ⟨w.heap.size, 0, none⟩)) (w.alloc (.cells Ez.cells 55)) := by
    kernel_rfl
  unfold Oper.wp
  simp only [execOp, ho, Sem.run_bind, hr, Result.andThen_ok, Sem.run_pure]
  exact hK _ _ (hk _ _ (newR w 55 _))
theorem wpL_ebuild (hgd : o.guard = none) (ho : o.op = .build 55 #[]) (hk : wpList Try.prog ops Q rest (a.put o.dst (.agg Ez.cells)) w) : wpList Try.prog ops Q (o :: rest) a w := by
  refine wpList_plain hgd fun K hK => ?_
  have hrun : (Instr.build 55 #[]).run Try.prog w = .ok (.agg Ez.cells) w := by kernel_rfl
  unfold Oper.wp
  simp only [execOp, ho, List.map_toArray, List.map_nil, Sem.run_bind, hrun, Result.andThen_ok, Sem.run_pure]
  exact hK _ _ hk
end
section
variable {P : Program} {ops : Array Oper} {C : World → Prop} {K : Act → Prop} {rest : List Oper} {o : Oper} {a : Act}
theorem wpQ_val (hgd : o.guard = none) (v : Value) (hrun : ∀ x, C x → (execOp a.eval o).run P x = .ok (.value v) x) (h : wpQuiet P ops C K rest (a.put o.dst v)) : wpQuiet P ops C K (o :: rest) a := by
  unfold wpQuiet
  have hw : Region.wanted o (yielded ops a.tmps) = true := by unfold Region.wanted; rw [hgd]
  rw [if_pos hw]
  refine ⟨v, fun x hx => ?_, h⟩
  unfold Oper.quietAt
  rw [hrun x hx]
  exact ⟨rfl, rfl⟩
theorem wpQ_load (hgd : o.guard = none) (ty : TypeId) (x : Operand) (ho : o.op = .load ty x) {p v : Value} (hx : a.eval x = p) (hrun : ∀ w, C w → (Instr.loadAt ty p).run P w = .ok v w) (h : wpQuiet P ops C K rest (a.put o.dst v)) : wpQuiet P ops C K (o :: rest) a :=
  wpQ_val hgd v (fun w hw => by simp [execOp, ho, hx, hrun w hw, Result.andThen]) h
end

theorem results_row_tmp {P : Program} {w : World} {ty : TypeId} {fn : Func} {p q : Tmp} (h : fn.results = #[.cell p ty, .tmp q]) (tmps : Array Value) (g : Nat) (t : TypeId) (cs : Array Value) (fr : Nat × Nat) (d : TypeDesc)
    (hp : tmps.getD p undef = .pointer (some ⟨g, 0, none⟩)) (hg : w.heap[g]? = some (.cells cs t fr))
    (hu : P.underlying ty = some d) (hd : (match d with | .struct _ | .array _ _ => true | _ => false) = true) (hi : (P.info? ty).map (·.size) = some cs.size) :
    (results fn tmps).run P w = .ok (.tuple #[.agg cs, tmps.getD q undef]) w := by
  have hp' : tmps[p]?.getD undef = .pointer (some ⟨g, 0, none⟩) := by simpa using hp
  simp [results, h, hp', asAddr, run_loadVar_row w g t ty cs fr d hg hu hd hi]
theorem Rd.stay {w w' : World} {B sz n c : Nat} {A : Option Addr} {xs : List Value} (h : Rd w B sz A n c xs) (k : ∀ b o, A = some ⟨b, o, none⟩ → w'.heap[b]? = w.heap[b]?) : Rd w' B sz A n c xs := by
  obtain ⟨h1, h2, h3, h4⟩ := h
  refine ⟨h1, h2, h3, fun hn => ?_⟩
  obtain ⟨b, o, hA, hb, hc⟩ := h4 hn
  exact ⟨b, o, hA, hb, fun j u hu => (World.cell?_of_block (a := ⟨b, o + j, none⟩) (k b o hA)).trans (hc j u hu)⟩

theorem Rd.stayn {w w' : World} {B sz n c : Nat} {A : Option Addr} {xs : List Value} (h : Rd w B sz A n c xs) (k : 0 < n → ∀ b o, A = some ⟨b, o, none⟩ → b < B → w'.heap[b]? = w.heap[b]?) : Rd w' B sz A n c xs := by
  obtain ⟨h1, h2, h3, h4⟩ := h
  refine ⟨h1, h2, h3, fun hn => ?_⟩
  obtain ⟨b, o, hA, hb, hc⟩ := h4 hn
  exact ⟨b, o, hA, hb, fun j u hu => (World.cell?_of_block (a := ⟨b, o + j, none⟩) (k hn b o hA hb)).trans (hc j u hu)⟩

/-! ### The best of an index, as data -/
def btr (V : En → Bool) (ix : Nat) (o : Option En) (x : En) : Bool := decide (x.ix = ix) && ((match o with | none => true | some b => decide (b.tm < x.tm)) && !V x)
def bstep (V : En → Bool) (ix : Nat) (o : Option En) (x : En) : Option En := if btr V ix o x then some x else o
def bestOf (V : En → Bool) (ix : Nat) (l : List En) : Option En := l.foldl (bstep V ix) none
theorem bestOf_snoc {V : En → Bool} {ix : Nat} (l m : List En) : bestOf V ix (l ++ m) = m.foldl (bstep V ix) (bestOf V ix l) := by unfold bestOf; rw [List.foldl_append]
theorem fold_take {V : En → Bool} {ix i : Nat} {es : List En} {o : Option En} {p : En} (hp : es[i]? = some p) : (es.take (i + 1)).foldl (bstep V ix) o = bstep V ix ((es.take i).foldl (bstep V ix) o) p := by
  rw [List.take_add_one, hp, List.foldl_append]
  rfl
theorem fold_mem {V : En → Bool} {ix : Nat} : ∀ (l : List En) (o : Option En) (e : En), l.foldl (bstep V ix) o = some e → o = some e ∨ e ∈ l := by
  intro l
  induction l with
  | nil => intro o e h; exact .inl h
  | cons x l ih =>
    intro o e h
    rcases ih _ _ h with h1 | h1
    · unfold bstep at h1
      split at h1
      · cases h1; exact .inr (List.mem_cons_self ..)
      · exact .inl h1
    · exact .inr (List.mem_cons_of_mem _ h1)
theorem bestOf_mem {V : En → Bool} {ix : Nat} {l : List En} {e : En} (h : bestOf V ix l = some e) : e ∈ l := by
  rcases fold_mem l none e h with h1 | h1
  · cases h1
  · exact h1
theorem fold_ix {V : En → Bool} {ix : Nat} : ∀ (l : List En) (o : Option En), (∀ e, o = some e → e.ix = ix ∧ V e = false) → ∀ e, l.foldl (bstep V ix) o = some e → e.ix = ix ∧ V e = false := by
  intro l
  induction l with
  | nil => intro o ho e h; exact ho e h
  | cons x l ih =>
    intro o ho e h
    refine ih _ ?_ e h
    intro e' h'
    unfold bstep at h'
    split at h'
    · next hb =>
      cases h'
      unfold btr at hb
      simp only [Bool.and_eq_true, decide_eq_true_eq, Bool.not_eq_true'] at hb
      exact ⟨hb.1, hb.2.2⟩
    · exact ho e' h'
theorem bestOf_ix {V : En → Bool} {ix : Nat} {l : List En} {e : En} (h : bestOf V ix l = some e) : e.ix = ix ∧ V e = false := fold_ix l none (fun _ h => by cases h) e h
/-- The best of all lists. -/
def bst (Ls : List Li) (ix : Nat) : Option En := bestOf (vd (flat Ls)) ix (flat Ls)
def curE (o : Option En) : En := o.getD Ez
end Go.Proofs.Ytapfggpeodpflaa

namespace Go.Proofs.Ytapfggpeodpflaa
open Go.RowKit
set_option maxRecDepth 20000

/-- What flat tells: a row of one's own. -/
structure Flat (w : World) (A : Option Addr) (n c : Nat) (es : List En) (w' : World) : Prop where
  ents : Ents w' A n c es
  bel : Below w.heap.size w w'
  lo : ∀ x, A = some x → w.heap.size ≤ x.block
set_option maxHeartbeats 4000000 in
theorem flat_any {w : World} {A : Option Addr} {n c : Nat} {Ls : List Li} (h : Slc Li.lay w A n c Ls) (hl : (flat Ls).length ≤ 1000) :
    Calls Try.prog 43 #[.slice A n c] w fun r w' => ∃ A' n' c', r = .returned (.slice A' n' c') ∧ Flat w A' n' c' (flat Ls) w' := by
  have hcap := h.rd.2.1
  have hnc := h.rd.1
  have hnm : (n : Int) ≤ 9223372036854775807 := by unfold maxLen at hcap; omega
  have HH := Lib.hid h
  have HL := Lib.hid hl
  clear h hcap hnc hl
  go_enter Try.func43, Try.ntmps43
  go_wp2
  go_loopw [3, 4] (fun ov ir wr => ∃ (i : Nat), i ≤ n ∧ ir = .int .i64 (i : Int) ∧ wr.ownsRow w.heap.size 55 10 ov (flat (Ls.take i)).length (ens (flat (Ls.take i))) ∧ Below w.heap.size w wr) (fun _ ir _ => n - (intOf ir).toNat)
  case atStart => exact ⟨0, Nat.zero_le _, rfl, World.ownsRow_nil w _ _ _, Below.refl _ _⟩
  case round =>
    obtain ⟨i, hi, rfl, hown, hb⟩ := hrel
    have HB := Lib.hid hb
    have HO := Lib.hid hown
    clear hb hown
    by_cases hlt : i < n
    · obtain ⟨p0, hp⟩ : ∃ p0, Ls[i]? = some p0 := ⟨_, List.getElem?_eq_getElem (by have := HH.out.len; omega)⟩
      obtain ⟨b, o, rfl, hbb, hcc⟩ := HH.out.at_ (by omega)
      have hrd : Ents w p0.A p0.n p0.c p0.es := HH.out.reads p0 (List.mem_of_getElem? hp)
      have k0 : wr.cell? ⟨b, o + i, none⟩ = some (.slice p0.A p0.n p0.c) := (HB.out.cell (p := ⟨b, o + i, none⟩) hbb).trans (by have := hcc i p0 hp 0 (.slice p0.A p0.n p0.c) rfl; rwa [Nat.mul_one, Nat.add_zero] at this)
      have hsn := flat_snoc Ls i p0 hp
      have hle : (flat (Ls.take (i + 1))).length ≤ (flat Ls).length := by
        have : flat Ls = flat (Ls.take (i + 1)) ++ flat (Ls.drop (i + 1)) := by
          unfold flat
          rw [← List.flatMap_append, List.take_append_drop]
        rw [this, List.length_append]
        omega
      have hpn : (flat (Ls.take i)).length + p0.n ≤ 1000 := by
        rw [hsn, List.length_append, hrd.len] at hle
        have := HL.out
        omega
      have hsrc := ((hrd.below HB.out).rd.src (tx := 23) Try.underlying23 (ens_one _))
      have HS := Lib.hid hsrc
      have HN := Lib.hid hsn
      have HPL := Lib.hid hrd.len
      have hlti : (i : Int) < (n : Int) := by omega
      have hin : (i : Int) ≤ 9223372036854775806 := by omega
      clear hcc hp hrd hsn hle hsrc
      obtain ⟨A1, n1, c1, es1⟩ := p0
      dsimp only at *
      obtain ⟨m, hm⟩ : ∃ m, (flat (Ls.take i)).length = m := ⟨_, rfl⟩
      rw [hm] at HO hpn
      have HM := Lib.hid hm
      clear hm
      obtain ⟨A0, c0, rfl⟩ := ownsRow_form HO.out
      go_wp2_with (first
        | (at_builtin; refine wpL_app (o := ⟨some 16, _, _, _, _, _⟩) (v := .slice A0 m c0) (y := .slice A1 n1 c1) rfl (.tmp 11) (.tmp 15) _ _ rfl E_en rfl rfl HO.out HS.out (by unfold maxLen; omega) (by omega) (by have := HB.out.size; omega) ?_; intro v3 w3 hown3 hg3 hat3)
        | fail)
      go_roundw
      case rel => exact ⟨i + 1, by omega, by go_num, by rw [HN.out, List.length_append, ens_app, HM.out, HPL.out]; exact hown3, HB.out.grown hg3 HB.out.size (fun j e => (HO.out.lt j e).1)⟩
      case measure => simp [intOf]; omega
    · obtain rfl : i = n := by omega
      have HF := Lib.hid HO.out
      rw [flat_all Ls i (by have := HH.out.len; omega)] at HF
      obtain ⟨A0, c0, rfl⟩ := ownsRow_form HF.out
      go_wp2
      go_ret
      exact ⟨_, _, _, rfl, ⟨ownsRow_rd HF.out, rfl, fun e he => by
        unfold flat at he
        obtain ⟨l, hl, he⟩ := List.mem_flatMap.1 he
        exact ((HH.out.reads l hl).reads e he).below HB.out⟩, HB.out, fun x e => (HF.out.lt x.block (by rw [e]; rfl)).1⟩
end Go.Proofs.Ytapfggpeodpflaa

/- A drawn region as a tree, in which no block but some turns; operations that run to a value. Grant: where it refuses, and a vote that is taken. -/
import Derived.Test.YtapfggpeodpflaaKeepM
import Derived.Test.YtapfggpeodpflaaBlM
namespace Go.Proofs.Ytapfggpeodpflaa
open Go.RowKit
theorem ite_ok {c : Prop} [Decidable c] {A B : Prop} (h : c) (k : A) : if c then A else B := by rw [if_pos h]; exact k
section
variable {P : Program} {ops : Array Oper} {C : World → Prop} {o : Oper} {rest : List Oper} {a : Act} {w : World} {Q : Exit → Act → World → Prop}
/-- An operation that runs to a value. -/
theorem wp_run {K : Act → World → Prop} {v : Value} {w' : World} (hrun : (execOp a.eval o).run P w = .ok (.value v) w') (h : K (a.put o.dst v) w') : o.wp P a w K Q := by
  unfold Oper.wp
  rw [hrun]
  exact h
theorem wp_skip {K : Act → World → Prop} {w' : World} (hrun : (execOp a.eval o).run P w = .ok .skip w') (h : K (a.put o.dst undef) w') : o.wp P a w K Q := by
  unfold Oper.wp
  rw [hrun]
  exact h
theorem wp_look1 {K : Act → World → Prop} (ty : TypeId) (x y : Operand) (ok : Bool) (ho : o.op = .lookup ty x y ok) {p q v : Value} (hx : a.eval x = p) (hy : a.eval y = q) (hrun : (Instr.lookup ty p q ok).run P w = .ok v w) (h : K (a.put o.dst v) w) : o.wp P a w K Q :=
  wp_run (by simp only [execOp, ho, hx, hy, Sem.run_bind, hrun, Result.andThen_ok, Sem.run_pure]) h
theorem wp_bslice {K : Act → World → Prop} (ty : TypeId) (n : Nat) (x : Operand) (ho : o.op = .buildSlice ty n #[(0, x)]) {p v : Value} {w' : World} (hx : a.eval x = p) (hrun : (Instr.buildSlice ty n #[(0, p)]).run P w = .ok v w') (h : K (a.put o.dst v) w') : o.wp P a w K Q :=
  wp_run (by simp only [execOp, ho, List.map_toArray, List.map_cons, List.map_nil, hx, Sem.run_bind, hrun, Result.andThen_ok, Sem.run_pure]) h
theorem wp_update {K : Act → World → Prop} (ty : TypeId) (x y z : Operand) (ho : o.op = .mapUpdate ty x y z) {p q r : Value} {w' : World} (hx : a.eval x = p) (hy : a.eval y = q) (hz : a.eval z = r) (hrun : (Instr.mapUpdate ty p q r).run P w = .ok () w') (h : K (a.put o.dst undef) w') : o.wp P a w K Q :=
  wp_skip (by simp only [execOp, ho, hx, hy, hz, Sem.run_bind, hrun, Result.andThen_ok, Sem.run_pure]) h
theorem wp_treeF {id : Nat} {l : List Oper} (F : Nat → Prop) (t : Seg) (hm : P.follows .mixedOrders = true)
    (hok : (Region.noSelect l.toArray && (t.ok .any l.toArray (Array.replicate l.toArray.size false) && decide (t.steps ≤ l.toArray.size))) = true)
    (hQ : ∀ (d : Option Tmp) v c a w, Q (.panic c) (a.put d v) w → Q (.panic c) a w) (h : ∀ wd, Below w.heap.size w wd → wpTree P l.toArray Q (fun x => Keeps F w x) t a wd) : (Code.region id l.toArray true).wp P Q a w := by
  simp only [Bool.and_eq_true, decide_eq_true_eq] at hok
  exact wp_region_held hm (tree_sound hok.1 hQ t _ _ a _ hok.2.1 hok.2.2 (Keeps.refl _ _).drew (h _ (Below.refl _ _).drew))
theorem wpL_look (hgd : o.guard = none) (ty : TypeId) (x y : Operand) (ok : Bool) (ho : o.op = .lookup ty x y ok) {p q v : Value} (hx : a.eval x = p) (hy : a.eval y = q) (hrun : (Instr.lookup ty p q ok).run P w = .ok v w) (h : wpList P ops Q rest (a.put o.dst v) w) : wpList P ops Q (o :: rest) a w := by
  refine wpList_plain hgd fun K hK => ?_
  unfold Oper.wp
  simp only [execOp, ho, hx, hy, Sem.run_bind, hrun, Result.andThen_ok, Sem.run_pure]
  exact hK _ _ h
end
end Go.Proofs.Ytapfggpeodpflaa

namespace Go.Proofs.Ytapfggpeodpflaa
open Go.RowKit
set_option maxRecDepth 20000

section
variable {w w' : World} {m cl : Nat} {es : Array (Value × Value)}
theorem ne_map {ob : Obj} {b o : Nat} {u : Value} (hm : w.heap[m]? = some ob) (hn : ob.isCells = false) (hc : w.cell? ⟨b, o, none⟩ = some u) : b ≠ m := by
  rintro rfl
  unfold World.cell? at hc
  rw [hm] at hc
  cases ob <;> first | (cases hn; done) | cases (show none = some u from hc)
theorem Rd.mapk {ob : Obj} {B sz n c : Nat} {A : Option Addr} {xs : List Value} (h : Rd w B sz A n c xs) (hs : 0 < sz) (hB : B ≤ w.heap.size) (hm : w.heap[m]? = some ob) (hn : ob.isCells = false) (hg : w.grownBy w' (some m)) : Rd w' B sz A n c xs := by
  refine h.stayn fun hn0 b o hA hb => hg.block b (by omega) fun e => ?_
  obtain ⟨b', o', hA', _, hc⟩ := h.2.2.2 hn0
  rw [hA] at hA'
  cases hA'
  have hl : 0 < xs.length := by rw [h.2.2.1]; exact Nat.mul_pos hn0 hs
  exact ne_map hm hn (hc 0 _ (List.getElem?_eq_getElem hl)) (by cases e; rfl)
theorem En.Reads.mapk {ob : Obj} {e : En} (h : e.Reads w) (hm : w.heap[m]? = some ob) (hn : ob.isCells = false) (hg : w.grownBy w' (some m)) : e.Reads w' :=
  ⟨h.ix, h.tm, h.st, h.kd, h.look, h.da, (h.rd.mapk (by decide) (Nat.le_refl _) hm hn hg).more hg.size, h.len, h.oks⟩
theorem Ents.mapk {ob : Obj} {A : Option Addr} {n c : Nat} {es : List En} (h : Ents w A n c es) (hm : w.heap[m]? = some ob) (hn : ob.isCells = false) (hg : w.grownBy w' (some m)) : Ents w' A n c es :=
  ⟨(h.rd.mapk (by decide) (Nat.le_refl _) hm hn hg).more hg.size, h.len, fun e he => (h.reads e he).mapk hm hn hg⟩
theorem MapB.isMap {P : Program} {k : TypeId} {n : Nat} {f : SaysB} (h : MapB P k w m n f) : ∃ ob : Obj, w.heap[m]? = some ob ∧ ob.isCells = false := by
  obtain ⟨es, c, h⟩ := h.obj
  exact ⟨_, h, rfl⟩
theorem BlAt.ne {b : Nat} {x : Bl} (h : BlAt w b x) : b ≠ x.m := by
  obtain ⟨ob, hm, hn⟩ := h.map.isMap
  rintro rfl
  rw [h.row] at hm
  cases hm
  cases hn
/-- Another ballot's map is stored into. -/
theorem BlAt.mapk {ob : Obj} {b : Nat} {x : Bl} (h : BlAt w b x) (hm : w.heap[m]? = some ob) (hn : ob.isCells = false) (hg : w.grownBy w' (some m)) (hx : x.m ≠ m) : BlAt w' b x :=
  ⟨(hg.block b (Array.getElem?_eq_some_iff.1 h.row).1 (fun e => by cases e; rw [h.row] at hm; cases hm; cases hn)).trans h.row, h.map.same (hg.block _ h.map.lt (fun e => hx (by cases e; rfl))), h.keys, fun k l hk => (h.lists k l hk).mapk hm hn hg, h.bns, h.nd, h.tm, h.bs⟩
end
/-- The same entries, but for where their looks lie. -/
def Cop (es es' : List En) : Prop := es'.length = es.length ∧ ∀ (j : Nat) (e : En), es[j]? = some e → ∃ A' c', es'[j]? = some (e.put A' c')
theorem Cop.bns {es es' : List En} (h : Cop es es') (hf : ∀ e ∈ es, e.bn ≤ 200) : ∀ e ∈ es', e.bn ≤ 200 := by
  intro e he
  obtain ⟨j, hj, rfl⟩ := List.getElem_of_mem he
  have hj' : j < es.length := by rw [← h.1]; exact hj
  obtain ⟨A, c, h2⟩ := h.2 j es[j] (List.getElem?_eq_getElem hj')
  rw [List.getElem?_eq_getElem hj] at h2
  rw [Option.some.inj h2]
  exact show es[j].bn ≤ 200 from hf _ (List.getElem_mem hj')
/-- One more vote. -/
def Bl.vote (x : Bl) (k : Nat) (l : Li) : Bl := ⟨x.nd, x.tm, x.bs, x.m, fun y => if y = k then some l else x.g y⟩
theorem sv_vote (g : Nat → Option Li) (k : Nat) (l : Li) : sv (fun y => if y = k then some l else g y) = fun y => if y = k then some l.v else sv g y := by
  funext y
  unfold sv
  dsimp only
  split <;> rfl
theorem filter_more (p : Nat → Bool) (k : Nat) (hp : p k = false) : ∀ l : List Nat, l.Nodup → (l.filter fun y => if y = k then true else p y).length = (l.filter p).length + if k ∈ l then 1 else 0 := by
  intro l
  induction l with
  | nil => intro _; rfl
  | cons a l ih =>
    intro hn
    obtain ⟨h1, h2⟩ := List.nodup_cons.1 hn
    have := ih h2
    rw [List.filter_cons, List.filter_cons]
    by_cases ha : a = k
    · subst ha
      rw [if_neg h1] at this
      simp [hp] at this ⊢
      omega
    · have ha' : ¬ k = a := fun h => ha h.symm
      have hk : (if k ∈ a :: l then 1 else 0) = if k ∈ l then 1 else 0 := by simp [ha']
      rw [hk, if_neg ha]
      split
      · rw [List.length_cons, List.length_cons, this]; omega
      · exact this
theorem vote_len (x : Bl) (k : Nat) (l : Li) (hk : k < 7) (hg : x.g k = none) : (x.vote k l).vs.length = x.vs.length + 1 := by
  unfold Bl.vs keysOf Bl.vote
  have := filter_more (fun y => (sv x.g y).isSome) k (by rw [sv_some, hg]; rfl) (List.range 7) List.nodup_range
  rw [if_pos (List.mem_range.2 hk)] at this
  rw [← this]
  congr 1
  refine congrArg (fun q => List.filter q _) ?_
  funext y
  dsimp only
  rw [sv_vote]
  dsimp only
  split <;> rfl
theorem inB_lt {s : Nat} {n : Int} (hs : s < 128) (h : Qu.inB s n = true) : ∃ k : Nat, n = (k : Int) ∧ k < 7 := by
  unfold Qu.inB at h
  simp only [Bool.and_eq_true, decide_eq_true_eq] at h
  refine ⟨n.toNat, by omega, ?_⟩
  by_cases hk : n.toNat < 7
  · exact hk
  · have : s.testBit n.toNat = false := Nat.testBit_lt_two_pow (Nat.lt_of_lt_of_le hs (show 2 ^ 7 ≤ 2 ^ n.toNat from Nat.pow_le_pow_right (n := 2) (by decide) (by omega)))
    rw [this] at h
    exact absurd h.2.2 (by decide)
set_option maxHeartbeats 1000000 in
theorem grant_nil (n : Int) (v : Value) (w : World) : Calls Try.prog 10 #[.pointer none, .int .i64 n, v] w (TVal w (.int .i64 1)) := by
  unfold TVal
  go_enter Try.func10, Try.ntmps10
  go_wp2
  go_ret
  exact ⟨rfl, Below.refl _ _⟩
set_option maxHeartbeats 1000000 in
theorem grant_no {w : World} {b : Nat} {x : Bl} (h : BlAt w b x) (n : Int) (v : Value) (hn : Qu.inB x.nd n = false) : Calls Try.prog 10 #[.pointer (some ⟨b, 0, none⟩), .int .i64 n, v] w (TVal w (.int .i64 2)) := by
  have c0 := cell_of_row w b 0 _ _ _ h.row
  have HH := Lib.hid (fun W => Qu.has_any x.nd n W (Nat.lt_trans h.nd (by decide)))
  rw [hn] at HH
  unfold TVal Bl.cells at *
  clear h hn
  go_enter Try.func10, Try.ntmps10
  go_wp2_with (first
    | (go_at_call 22; refine (HH.out _).mono ?_; rintro e w1 ⟨rfl, rfl⟩)
    | fail)
  go_ret
  exact ⟨rfl, Below.refl _ _⟩
set_option maxHeartbeats 1000000 in
theorem grant_there {w : World} {b : Nat} {x : Bl} (h : BlAt w b x) (n : Int) (v : Value) (hn : Qu.inB x.nd n = true) (hv : Qu.inB x.vset n = true) : Calls Try.prog 10 #[.pointer (some ⟨b, 0, none⟩), .int .i64 n, v] w (TVal w (.int .i64 41)) := by
  have c0 := cell_of_row w b 0 _ _ _ h.row
  have HH := Lib.hid (fun W => Qu.has_any x.nd n W (Nat.lt_trans h.nd (by decide)))
  have HX := Lib.hid (fun W => Qu.has_any x.vset n W x.vset_lt)
  have HV := Lib.hid (voters_any h)
  rw [hn] at HH
  rw [hv] at HX
  unfold TVal Bl.cells at *
  generalize x.vset = V at *
  clear h hn hv
  go_enter Try.func10, Try.ntmps10
  go_wp2_with (first
    | (go_at_call 22; refine (HH.out _).mono ?_; clear HH; rintro e w1 ⟨rfl, rfl⟩)
    | (go_at_call 12; refine HV.out.mono ?_; rintro e w2 ⟨rfl, hb2⟩; have HB := Lib.hid hb2; clear hb2)
    | (go_at_call 22; refine (HX.out _).mono ?_; rintro e w3 ⟨rfl, rfl⟩)
    | fail)
  go_ret
  exact ⟨rfl, HB.out⟩
theorem grown_none {w w' : World} {m : Nat} (h : Below w.heap.size w w') : w.grownBy w' (some m) := ⟨h.os, h.tape, h.output, h.size, fun i hi _ => h.block i hi⟩
theorem grown_trans {w w1 w2 : World} {m : Nat} (h : Below w.heap.size w w1) (hg : w1.grownBy w2 (some m)) : w.grownBy w2 (some m) :=
  ⟨hg.os.trans h.os, hg.tape.trans h.tape, hg.output.trans h.output, Nat.le_trans h.size hg.size, fun i hi hne => (hg.block i (Nat.lt_of_lt_of_le hi h.size) hne).trans (h.block i hi)⟩
/-- A vote behind it. -/
theorem BlAt.voted {w w' : World} {b k : Nat} {x : Bl} {l : Li} (h : BlAt w b x) (hk : k < 7) (hx : x.g k = none) (hl : Ents w l.A l.n l.c l.es) (hb : ∀ e ∈ l.es, e.bn ≤ 200)
    (hM : MapB Try.prog 3 w' x.m (x.vs.length + 1) (fun y => if y = k then some l.v else sv x.g y)) (hg : w.grownBy w' (some x.m)) : BlAt w' b (x.vote k l) := by
  obtain ⟨ob, hm, hn⟩ := h.map.isMap
  have hne := h.ne
  refine ⟨(hg.block b (Array.getElem?_eq_some_iff.1 h.row).1 (fun e => hne (by cases e; rfl))).trans h.row, ?_, fun y z hy => ?_, fun y z hy => ?_, fun y z hy => ?_, h.nd, h.tm, h.bs⟩
  · rw [vote_len x k l hk hx]
    unfold Bl.vote
    dsimp only
    rw [sv_vote]
    exact hM
  all_goals
    unfold Bl.vote at hy
    dsimp only at hy
    split at hy
  · next e => rw [e]; exact hk
  · exact h.keys y z hy
  · cases hy; exact hl.mapk hm hn hg
  · exact (h.lists y z hy).mapk hm hn hg
  · cases hy; exact hb
  · exact h.bns y z hy
/-- What Grant does where it takes a vote. -/
def TVote (w : World) (b : Nat) (x : Bl) (k : Nat) (es : List En) (r : Ending) (w' : World) : Prop :=
  r = .returned (.int .i64 0) ∧ w.grownBy w' (some x.m) ∧ ∃ l : Li, Cop es l.es ∧ l.n = es.length ∧ BlAt w' b (x.vote k l)
set_option maxHeartbeats 2000000 in
theorem grant_ok {w : World} {b k : Nat} {x : Bl} (h : BlAt w b x) (hk : k < 7) (hn : Qu.inB x.nd (k : Int) = true) (hv : x.g k = none) {A : Option Addr} {n c : Nat} {es : List En} (hl : Ents w A n c es) (hf : ∀ e ∈ es, e.bn ≤ 200) (hn1 : n ≤ 100000) :
    Calls Try.prog 10 #[.pointer (some ⟨b, 0, none⟩), .int .i64 (k : Int), .slice A n c] w (TVote w b x k es) := by
  have c0 := cell_of_row w b 0 _ _ _ h.row
  have hvs : Qu.inB x.vset (k : Int) = false := by
    rw [Qu.inB_nat _ _ (by omega), x.vset_bit k (by omega), hv]
    simp
  have HH := Lib.hid (fun W => Qu.has_any x.nd (k : Int) W (Nat.lt_trans h.nd (by decide)))
  have HX := Lib.hid (fun W => Qu.has_any x.vset (k : Int) W x.vset_lt)
  have HV := Lib.hid (voters_any h)
  have HC := Lib.hid (fun w' (hb : Below w.heap.size w w') => copies_any (hl.below hb) hf hn1)
  have HBL := Lib.hid (fun w' (hb : Below w.heap.size w w') => h.below hb)
  have HVO := Lib.hid (fun (w1 w2 : World) (l : Li) (hb : Below w.heap.size w w1) => (h.below hb).voted (w' := w2) (l := l) hk hv)
  have HP := Lib.hid (fun (w1 : World) (v : Value) (hb : Below w.heap.size w w1) (hs : IsSl v) => (h.below hb).map.put Try.underlying3 Try.underlying44 (by have := x.vs_len; unfold maxLen; omega) k (by omega) hs)
  have HF := Lib.hid hf
  have HNE := Lib.hid h.ne
  rw [hn] at HH
  rw [hvs] at HX
  unfold TVote Bl.cells TVal TCop TCop.IsSlc at *
  have HCE := Lib.hid (fun w' (hb : Below w.heap.size w w') => cell_of_row w' b 3 _ _ _ (h.below hb).row)
  unfold Bl.cells at HCE
  have hki : (k : Int) < 7 := by omega
  generalize x.vset = V at *
  obtain ⟨M, hM⟩ : ∃ M, x.m = M := ⟨_, rfl⟩
  rw [hM] at HP HCE HNE HVO ⊢
  rw [hM] at c0
  clear h hn hv hvs hl hf hn1
  go_enter Try.func10, Try.ntmps10
  go_wp2_with (first
    | (go_at_call 22; refine (HH.out _).mono ?_; clear HH; rintro e w1 ⟨rfl, rfl⟩)
    | (go_at_call 12; refine HV.out.mono ?_; rintro e w2 ⟨rfl, hb2⟩; have HB := Lib.hid hb2; clear hb2)
    | (go_at_call 22; refine (HX.out _).mono ?_; rintro e w3 ⟨rfl, rfl⟩)
    | fail)
  obtain ⟨wd, hwd, hbd⟩ : ∃ wd, wd = w2.drew ∧ Below w2.heap.size w2 wd := ⟨_, rfl, (Below.refl _ _).drew⟩
  have hbw := HB.out.trans (hbd.mono HB.out.size)
  refine wp_segs [([0, 1, 2, 3, 4, 5], 6), ([], 7)] [] (fun z => wd.grownBy z (some M)) (by kernel_rfl) (by kernel_rfl) (fun d _ _ _ _ h => by cases d <;> exact h) (by rw [← hwd]; exact grown_none (Below.refl _ _)) ?_
  rw [← hwd]
  clear hwd
  intro q hq
  have C3 := fun z => (World.cell?_of_block (a := ⟨b, 3, none⟩) ((hq z).block b (World.block_lt_of_cell? _ _ (HCE.out wd hbw)) (fun e => HNE.out (by cases e; rfl)))).trans (HCE.out wd hbw)
  simp only [pickI, Option.toList_some, List.cons_append, List.nil_append, List.getElem?_toArray, List.getElem?_cons_succ, List.getElem?_cons_zero]
  try go_frame
  iterate 6 go_big_quiet_step (fail)
  refine wpQuiet_nil ?_
  clear hq q C3
  refine seg_op (by simp only [List.getElem?_toArray, List.getElem?_cons_succ, List.getElem?_cons_zero]; rfl) fun K hK => ?_
  go_simp
  refine (HC.out _ hbw).mono ?_
  rintro e v0 ⟨A', c', es', rfl, ⟨hown, hents⟩, hlen, hcop, bv0⟩
  have zv0 := hbw.trans (bv0.mono hbw.size)
  refine hK.out _ _ (seg_keep (grown_none bv0) ?_)
  clear hK K
  intro q hq
  refine wpQuiet_nil ?_
  clear hq q
  obtain ⟨W, hrun, hMW, hgW, hzW⟩ := HP.out v0 (.slice A' es.length c') zv0 (isSl_own hown)
  refine seg_op (by simp only [List.getElem?_toArray, List.getElem?_cons_succ, List.getElem?_cons_zero]; rfl) fun K hK => ?_
  rw [if_pos (by rfl)]
  refine wp_update 44 (.tmp 26) (.tmp 27) (.tmp 29) rfl rfl rfl rfl hrun ?_
  refine hK.out _ _ (seg_keep (grown_trans bv0 hgW) ?_)
  clear hK K
  intro q hq
  refine wpQuiet_nil ?_
  clear hq q
  have HR := Lib.hid (HVO.out v0 W ⟨A', es.length, c', es'⟩ zv0 hents (Cop.bns ⟨hlen, hcop⟩ HF.out) hMW hgW)
  have HG := Lib.hid (grown_trans zv0 hgW)
  have HCO := Lib.hid (show Cop es es' from ⟨hlen, hcop⟩)
  clear hrun hMW hgW hzW hown hents hcop bv0 zv0 hbd hbw
  go_wp2
  go_ret
  exact ⟨rfl, HG.out, _, HCO.out, rfl, HR.out⟩
end Go.Proofs.Ytapfggpeodpflaa

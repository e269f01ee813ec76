/- A law's own rows beside a ballot: what each node has, and who voted. What the arguments of a law are, read as data: pairs whose numbers fit. -/
import Derived.Test.YtapfggpeodpflaaBordmM
import Derived.Test.YtapfggpeodpflaaRowkitM
namespace Go.Proofs.Ytapfggpeodpflaa
open Go.RowKit
set_option maxRecDepth 20000

section
variable {w w' : World} {m : Nat} {cs : Array Value} {t : TypeId}
/-- A row none of whose cells is a number. -/
def NoInt (cs : Array Value) : Prop := ∀ (j : Nat) (k : IntKind) (z : Int), cs[j]? ≠ some (.int k z)
theorem ne_row {b o : Nat} {k : IntKind} {z : Int} (hm : w.heap[m]? = some (.cells cs t (0, 0))) (hn : NoInt cs) (hc : w.cell? ⟨b, o, none⟩ = some (.int k z)) : b ≠ m := by
  rintro rfl
  rw [cell_of_row w b o cs t (0, 0) hm] at hc
  exact hn o k z hc
theorem Rd.aside {B sz n c : Nat} {A : Option Addr} {xs : List Value} (h : Rd w B sz A n c xs) (hx : 0 < n → ∃ k z, xs[0]? = some (.int k z)) (hB : B ≤ w.heap.size) (hm : w.heap[m]? = some (.cells cs t (0, 0))) (hn : NoInt cs) (hg : w.grownBy w' (some m)) : Rd w' B sz A n c xs := by
  refine h.stayn fun hn0 b o hA hb => hg.block b (by omega) fun e => ?_
  obtain ⟨b', o', hA', _, hc⟩ := h.2.2.2 hn0
  rw [hA] at hA'
  cases hA'
  obtain ⟨k, z, h0⟩ := hx hn0
  exact ne_row hm hn (hc 0 _ h0) (by cases e; rfl)
theorem En.Reads.aside {e : En} (h : e.Reads w) (hm : w.heap[m]? = some (.cells cs t (0, 0))) (hn : NoInt cs) (hg : w.grownBy w' (some m)) : e.Reads w' := by
  refine ⟨h.ix, h.tm, h.st, h.kd, h.look, h.da, (h.rd.aside (fun h0 => ?_) (Nat.le_refl _) hm hn hg).more hg.size, h.len, h.oks⟩
  have hl := h.len
  cases hls : e.ls with
  | nil => rw [hls] at hl; simp at hl; omega
  | cons a l => exact ⟨_, _, rfl⟩
theorem Ents.aside {A : Option Addr} {n c : Nat} {es : List En} (h : Ents w A n c es) (hm : w.heap[m]? = some (.cells cs t (0, 0))) (hn : NoInt cs) (hg : w.grownBy w' (some m)) : Ents w' A n c es := by
  refine ⟨(h.rd.aside (fun h0 => ?_) (Nat.le_refl _) hm hn hg).more hg.size, h.len, fun e he => (h.reads e he).aside hm hn hg⟩
  have hl := h.len
  cases es with
  | nil => simp at hl; omega
  | cons a l => exact ⟨_, _, rfl⟩
theorem BlAt.aside {b : Nat} {x : Bl} (h : BlAt w b x) (hm : w.heap[m]? = some (.cells cs t (0, 0))) (hn : NoInt cs) (hg : w.grownBy w' (some m)) : BlAt w' b x := by
  have hb : b ≠ m := ne_row hm hn (show w.cell? ⟨b, 0, none⟩ = some (.int .u64 (x.nd : Int)) from cell_of_row w b 0 _ _ _ h.row)
  have hxm : x.m ≠ m := by
    obtain ⟨ob, ho, hno⟩ := h.map.isMap
    intro e
    rw [e, hm] at ho
    cases ho
    cases hno
  exact ⟨(hg.block b (Array.getElem?_eq_some_iff.1 h.row).1 (fun e => hb (by cases e; rfl))).trans h.row, h.map.same (hg.block _ h.map.lt (fun e => hxm (by cases e; rfl))), h.keys, fun k l hk => (h.lists k l hk).aside hm hn hg, h.bns, h.nd, h.tm, h.bs⟩
end
def hvc (M : Nat) (g : Nat → Option Li) : List Value := (List.range M).map fun k => ((g k).getD Li.zero).v
def vtc (M : Nat) (g : Nat → Option Li) : List Value := (List.range M).map fun k => Value.bool (g k).isSome
def upd (g : Nat → Option Li) (k : Nat) (l : Li) : Nat → Option Li := fun y => if y = k then some l else g y
theorem map_upd {α : Type} (M k : Nat) (f f' : Nat → α) (hf : ∀ y, y ≠ k → f' y = f y) : (((List.range M).map f).toArray.setIfInBounds k (f' k)) = ((List.range M).map f').toArray := by
  apply Array.ext_getElem?
  intro j
  rw [Array.getElem?_setIfInBounds]
  by_cases hj : k = j
  · subst hj
    by_cases hk : k < M
    · simp [hk]
    · simp [hk]
  · rw [if_neg hj]
    by_cases hk : j < M
    · simp [hk, hf j (fun e => hj e.symm)]
    · simp [hk]
theorem hvc_set (M k : Nat) (g : Nat → Option Li) (l : Li) : (hvc M g).toArray.setIfInBounds k l.v = (hvc M (upd g k l)).toArray := by
  have := map_upd M k (fun k => ((g k).getD Li.zero).v) (fun j => ((upd g k l j).getD Li.zero).v) (fun y hy => by unfold upd; rw [if_neg hy])
  unfold hvc
  rw [← this]
  congr 1
  unfold upd
  rw [if_pos rfl]
  rfl
theorem vtc_set (M k : Nat) (g : Nat → Option Li) (l : Li) : (vtc M g).toArray.setIfInBounds k (.bool true) = (vtc M (upd g k l)).toArray := by
  have := map_upd M k (fun k => Value.bool (g k).isSome) (fun j => Value.bool (upd g k l j).isSome) (fun y hy => by unfold upd; rw [if_neg hy])
  unfold vtc
  rw [← this]
  congr 1
  unfold upd
  rw [if_pos rfl]
  rfl
theorem hvc_no (M : Nat) (g : Nat → Option Li) : NoInt (hvc M g).toArray := by
  intro j k z h
  rw [List.getElem?_toArray] at h
  unfold hvc at h
  rw [List.getElem?_map] at h
  cases hr : (List.range M)[j]? with
  | none => rw [hr] at h; cases h
  | some a => rw [hr] at h; cases h
theorem vtc_no (M : Nat) (g : Nat → Option Li) : NoInt (vtc M g).toArray := by
  intro j k z h
  rw [List.getElem?_toArray] at h
  unfold vtc at h
  rw [List.getElem?_map] at h
  cases hr : (List.range M)[j]? with
  | none => rw [hr] at h; cases h
  | some a => rw [hr] at h; cases h
/-- The law's rows, and the ballot beside them: gh is what the rows tell, gb what the ballot has. -/
structure Bo (w0 w : World) (ha va M bs b : Nat) (x : Bl) (gh gb : Nat → Option Li) : Prop where
  bel : Below w0.heap.size w0 w
  lo : w0.heap.size ≤ ha
  lo2 : w0.heap.size ≤ va
  ne : ha ≠ va
  row : w.heap[ha]? = some (.cells (hvc M gh).toArray 23 (0, 0))
  vrow : w.heap[va]? = some (.cells (vtc M gh).toArray 4 (0, 0))
  keys : ∀ k l, gh k = some l → k < M
  lists : ∀ k l, gh k = some l → Ents w0 l.A l.n l.c l.es
  few : ∀ k l, gh k = some l → l.es.length ≤ 20 ∧ ∀ e ∈ l.es, e.bn ≤ 200
  keyb : ∀ k l, gb k = some l → k < M
  at_ : BlAt w b x
  lom : w0.heap.size ≤ x.m
  nd : x.nd = nset M
  tm : x.tm = 9
  bs : x.bs = bs
  al : ∀ k : Nat, (x.g k).map (fun l => l.es.map En.bare) = (gb k).map (fun l => l.es.map En.bare)
section
variable {w0 w w' : World} {ha va M bs b : Nat} {x : Bl} {gh gb : Nat → Option Li}
theorem Bo.below (h : Bo w0 w ha va M bs b x gh gb) (hb : Below w.heap.size w w') : Bo w0 w' ha va M bs b x gh gb :=
  ⟨h.bel.trans (hb.mono h.bel.size), h.lo, h.lo2, h.ne, row_below h.row hb, row_below h.vrow hb, h.keys, h.lists, h.few, h.keyb, h.at_.below hb, h.lom, h.nd, h.tm, h.bs, h.al⟩
theorem Bo.have_ (h : Bo w0 w ha va M bs b x gh gb) {k : Nat} (hk : k < M) : w.cell? ⟨ha, k, none⟩ = some ((gh k).getD Li.zero).v := by
  rw [cell_of_row w ha k _ _ _ h.row, List.getElem?_toArray]
  unfold hvc
  simp [hk]
theorem Bo.voted (h : Bo w0 w ha va M bs b x gh gb) {k : Nat} (hk : k < M) : w.cell? ⟨va, k, none⟩ = some (.bool (gh k).isSome) := by
  rw [cell_of_row w va k _ _ _ h.vrow, List.getElem?_toArray]
  unfold vtc
  simp [hk]
/-- A world in which the rows alone have turned. -/
theorem Bo.turned {gh' : Nat → Option Li} (h : Bo w0 w ha va M bs b x gh gb) {k : Nat} {l : Li} (hk : k < M) (hl : Ents w0 l.A l.n l.c l.es) (hf : l.es.length ≤ 20 ∧ ∀ e ∈ l.es, e.bn ≤ 200) {w1 : World} (he : gh' = upd gh k l)
    (h1 : w.grownBy w1 (some ha)) (h2 : w1.grownBy w' (some va)) (r1 : w'.heap[ha]? = some (.cells (hvc M gh').toArray 23 (0, 0))) (r2 : w'.heap[va]? = some (.cells (vtc M gh').toArray 4 (0, 0))) (r3 : w1.heap[va]? = some (.cells (vtc M gh).toArray 4 (0, 0))) : Bo w0 w' ha va M bs b x gh' gb := by
  subst he
  refine ⟨(h.bel.grown h1 h.bel.size (fun q e => by cases e; exact h.lo)).grown h2 (Nat.le_trans h.bel.size h1.size) (fun q e => by cases e; exact h.lo2), h.lo, h.lo2, h.ne, r1, r2, ?_, ?_, ?_, h.keyb, (h.at_.aside h.row (hvc_no _ _) h1).aside r3 (vtc_no _ _) h2, h.lom, h.nd, h.tm, h.bs, h.al⟩
  all_goals
    intro y z hy
    unfold upd at hy
    split at hy
  · next e => rw [e]; exact hk
  · exact h.keys y z hy
  · cases hy; exact hl
  · exact h.lists y z hy
  · cases hy; exact hf
  · exact h.few y z hy
theorem Bo.put (h : Bo w0 w ha va M bs b x gh gb) {k : Nat} (l : Li) (hk : k < M) (hl : Ents w0 l.A l.n l.c l.es) (hf : l.es.length ≤ 20 ∧ ∀ e ∈ l.es, e.bn ≤ 200) :
    Bo w0 ((w.setCell ⟨ha, k, none⟩ l.v).setCell ⟨va, k, none⟩ (.bool true)) ha va M bs b x (upd gh k l) gb := by
  obtain ⟨a1, a2⟩ := set_far (j := k) (u := l.v) h.row
  have r3 := (a2.block va (Array.getElem?_eq_some_iff.1 h.vrow).1 (fun e => h.ne (by cases e; rfl))).trans h.vrow
  obtain ⟨b1, b2⟩ := set_far (j := k) (u := .bool true) r3
  refine h.turned hk hl hf rfl a2 b2 ?_ (by rw [b1, vtc_set]) r3
  rw [(b2.block ha (Array.getElem?_eq_some_iff.1 a1).1 (fun e => h.ne (by cases e; rfl))), a1, hvc_set]
theorem set_swap {w : World} {a b i j : Nat} {u v : Value} {c1 c2 : Array Value} {t1 t2 : TypeId} (hne : a ≠ b) (h1 : w.heap[a]? = some (.cells c1 t1 (0, 0))) (h2 : w.heap[b]? = some (.cells c2 t2 (0, 0))) :
    ((w.setCell ⟨a, i, none⟩ u).setCell ⟨b, j, none⟩ v).heap[a]? = ((w.setCell ⟨b, j, none⟩ v).setCell ⟨a, i, none⟩ u).heap[a]? := by
  obtain ⟨a1, a2⟩ := set_far (j := i) (u := u) h1
  obtain ⟨b1, b2⟩ := set_far (j := j) (u := v) ((a2.block b (Array.getElem?_eq_some_iff.1 h2).1 (fun e => hne (by cases e; rfl))).trans h2)
  obtain ⟨c1', c2'⟩ := set_far (j := j) (u := v) h2
  obtain ⟨d1, d2⟩ := set_far (j := i) (u := u) ((c2'.block a (Array.getElem?_eq_some_iff.1 h1).1 (fun e => hne (by cases e; rfl))).trans h1)
  rw [(b2.block a (Array.getElem?_eq_some_iff.1 a1).1 (fun e => hne (by cases e; rfl))), a1, d1]
theorem Bo.put2 (h : Bo w0 w ha va M bs b x gh gb) {k : Nat} (l : Li) (hk : k < M) (hl : Ents w0 l.A l.n l.c l.es) (hf : l.es.length ≤ 20 ∧ ∀ e ∈ l.es, e.bn ≤ 200) :
    Bo w0 ((w.setCell ⟨va, k, none⟩ (.bool true)).setCell ⟨ha, k, none⟩ l.v) ha va M bs b x (upd gh k l) gb := by
  obtain ⟨a1, a2⟩ := set_far (j := k) (u := .bool true) h.vrow
  have r3 := (a2.block ha (Array.getElem?_eq_some_iff.1 h.row).1 (fun e => h.ne (by cases e; rfl))).trans h.row
  obtain ⟨b1, b2⟩ := set_far (j := k) (u := l.v) r3
  refine ⟨(h.bel.grown a2 h.bel.size (fun q e => by cases e; exact h.lo2)).grown b2 (Nat.le_trans h.bel.size a2.size) (fun q e => by cases e; exact h.lo), h.lo, h.lo2, h.ne, by rw [b1, hvc_set], ?_, ?_, ?_, ?_, h.keyb, (h.at_.aside h.vrow (vtc_no _ _) a2).aside r3 (hvc_no _ _) b2, h.lom, h.nd, h.tm, h.bs, h.al⟩
  · rw [(b2.block va (Array.getElem?_eq_some_iff.1 a1).1 (fun e => h.ne (by cases e; rfl))), a1, vtc_set]
  all_goals
    intro y z hy
    unfold upd at hy
    split at hy
  · next e => rw [e]; exact hk
  · exact h.keys y z hy
  · cases hy; exact hl
  · exact h.lists y z hy
  · cases hy; exact hf
  · exact h.few y z hy
end
/-- What a vote's error is, and who has voted behind it. -/
def want (M : Nat) (g : Nat → Option Li) (z : Int) : Int := if z < 0 ∨ (M : Int) ≤ z then 2 else if (g z.toNat).isSome then 41 else 0
def nxt (M : Nat) (g : Nat → Option Li) (v : Vo) : Nat → Option Li := if v.nd < 0 ∨ (M : Int) ≤ v.nd then g else if (g v.nd.toNat).isSome then g else upd g v.nd.toNat v.l
theorem bo_grant {w0 w : World} {ha va M bs b : Nat} {x : Bl} {gb : Nat → Option Li} (v : Vo) (h : Bo w0 w ha va M bs b x (nxt M gb v) gb) (h7 : M ≤ 7) (hl : Ents w v.l.A v.l.n v.l.c v.l.es) (hf : ∀ e ∈ v.l.es, e.bn ≤ 200) (hn : v.l.n ≤ 100000) :
    Calls Try.prog 10 #[.pointer (some ⟨b, 0, none⟩), .int .i64 v.nd, .slice v.l.A v.l.n v.l.c] w fun r w' => r = .returned (.int .i64 (want M gb v.nd)) ∧ ∃ x', Bo w0 w' ha va M bs b x' (nxt M gb v) (nxt M gb v) := by
  have hin : ∀ n : Int, Qu.inB x.nd n = (decide (0 ≤ n) && decide (n < (M : Int))) := fun n => by rw [h.nd, nset_has _ h7]
  have hsome : ∀ k, (x.g k).isSome = (gb k).isSome := fun k => by simpa using congrArg Option.isSome (h.al k)
  unfold want
  generalize hG : nxt M gb v = G at h ⊢
  unfold nxt at hG
  by_cases ho : v.nd < 0 ∨ (M : Int) ≤ v.nd
  · rw [if_pos ho] at hG ⊢
    subst hG
    refine (grant_no h.at_ v.nd _ (by rw [hin]; simp; omega)).mono ?_
    rintro e w' ⟨rfl, hb⟩
    exact ⟨rfl, x, h.below hb⟩
  · rw [if_neg ho] at hG ⊢
    obtain ⟨j, hj⟩ : ∃ j : Nat, v.nd = (j : Int) := ⟨v.nd.toNat, by omega⟩
    have hjM : j < M := by omega
    have hnn : Qu.inB x.nd v.nd = true := by rw [hin]; simp; omega
    have hjt : v.nd.toNat = j := by omega
    rw [hjt] at hG ⊢
    cases hg : gb j with
    | some l0 =>
      rw [hg] at hG
      simp only [Option.isSome_some, if_true] at hG ⊢
      subst hG
      have hv : Qu.inB x.vset v.nd = true := by
        rw [hj, Qu.inB_nat _ _ (by omega), x.vset_bit j (by omega), hsome, hg]
        simp
        omega
      refine (grant_there h.at_ v.nd _ hnn hv).mono ?_
      rintro e w' ⟨rfl, hb⟩
      exact ⟨rfl, x, h.below hb⟩
    | none =>
      rw [hg] at hG
      simp only [Option.isSome_none, Bool.false_eq_true, if_false] at hG ⊢
      subst hG
      have hxg : x.g j = none := by have := hsome j; rw [hg] at this; simpa using this
      rw [hj] at hnn ⊢
      refine (grant_ok h.at_ (by omega) hnn hxg hl hf hn).mono ?_
      rintro e w' ⟨rfl, hgr, l, hc, _, hB'⟩
      obtain ⟨o, hoo, hno⟩ := h.at_.map.isMap
      have hne : ∀ {q : Nat} {cs : Array Value} {t : TypeId}, w.heap[q]? = some (.cells cs t (0, 0)) → w'.heap[q]? = some (.cells cs t (0, 0)) := fun {q cs t} hk => (hgr.block q (Array.getElem?_eq_some_iff.1 hk).1 (fun e => by cases e; rw [hk] at hoo; cases hoo; cases hno)).trans hk
      refine ⟨rfl, x.vote j l, h.bel.grown hgr h.bel.size (fun q e => by cases e; exact h.lom), h.lo, h.lo2, h.ne, hne h.row, hne h.vrow, h.keys, h.lists, h.few, h.keys, hB', h.lom, h.nd, h.tm, h.bs, ?_⟩
      intro k
      unfold Bl.vote upd
      dsimp only
      by_cases hk : k = j
      · rw [if_pos hk, if_pos hk]
        show some (l.es.map En.bare) = some (v.l.es.map En.bare)
        rw [cop_bare hc]
      · rw [if_neg hk, if_neg hk]
        exact h.al k
/-- The lists of those who voted, up to a node. -/
def gls (i : Nat) (g : Nat → Option Li) : List Li := ((List.range i).filter fun k => (g k).isSome).map fun k => (g k).getD Li.zero
theorem gls_some {i : Nat} {g : Nat → Option Li} (h : (g i).isSome = true) : gls (i + 1) g = gls i g ++ [(g i).getD Li.zero] := by
  unfold gls
  rw [List.range_succ, List.filter_append, List.map_append]
  simp [h]
theorem gls_none {i : Nat} {g : Nat → Option Li} (h : (g i).isSome = false) : gls (i + 1) g = gls i g := by
  unfold gls
  rw [List.range_succ, List.filter_append, List.map_append]
  simp [h]
theorem gls_len (i : Nat) (g : Nat → Option Li) : (gls i g).length ≤ i := by
  unfold gls
  rw [List.length_map]
  exact Nat.le_trans (List.length_filter_le _ _) (by simp)
theorem gls_mem {i : Nat} {g : Nat → Option Li} {l : Li} (h : l ∈ gls i g) : ∃ k, g k = some l := by
  unfold gls at h
  obtain ⟨k, hk, rfl⟩ := List.mem_map.1 h
  obtain ⟨l, hl⟩ := Option.isSome_iff_exists.1 (List.mem_filter.1 hk).2
  exact ⟨k, by rw [hl]; rfl⟩
theorem range_cut (p : Nat → Bool) {M : Nat} (h7 : M ≤ 7) (h : ∀ k, M ≤ k → p k = false) : (List.range 7).filter p = (List.range M).filter p := by
  obtain ⟨d, hd⟩ : ∃ d, 7 = M + d := ⟨7 - M, by omega⟩
  rw [hd, List.range_add, List.filter_append]
  have : ((List.range d).map (M + ·)).filter p = [] := by
    refine List.filter_eq_nil_iff.2 fun a ha => ?_
    obtain ⟨j, _, rfl⟩ := List.mem_map.1 ha
    rw [h _ (by omega)]
    decide
  rw [this, List.append_nil]
section
variable {w0 w w' : World} {ha va M bs b : Nat} {x : Bl} {gh gb : Nat → Option Li}
theorem Bo.some_ (h : Bo w0 w ha va M bs b x gh gb) (k : Nat) : (x.g k).isSome = (gb k).isSome := by simpa using congrArg Option.isSome (h.al k)
theorem Bo.has (h : Bo w0 w ha va M bs b x gh gb) (h7 : M ≤ 7) {i : Nat} (hi : i < M) : Qu.inB x.vset (i : Int) = (gb i).isSome := by
  rw [Qu.inB_nat _ _ (by omega), x.vset_bit i (by omega), h.some_, Bool.eq_iff_iff, decide_eq_true_eq]
  exact ⟨fun h => h.2, fun h => ⟨by omega, h⟩⟩
theorem Bo.vs_ (h : Bo w0 w ha va M bs b x gh gb) (h7 : M ≤ 7) : x.vs = (List.range M).filter fun k => (gb k).isSome := by
  rw [← range_cut _ h7 (fun k hk => by
    cases hg : gb k with
    | none => rfl
    | some l => have := h.keyb k l hg; omega)]
  unfold Bl.vs keysOf
  refine List.filter_congr fun k _ => ?_
  rw [sv_some, h.some_]
theorem Bo.flats (h : Bo w0 w ha va M bs b x gh gb) (h7 : M ≤ 7) : (flat x.ls).map En.bare = (flat (gls M gb)).map En.bare := by
  have hfl : ∀ (g : Nat → Option Li) (ks : List Nat), (flat (ks.map fun k => (g k).getD Li.zero)).map En.bare = ks.flatMap fun k => ((g k).map (fun l => l.es.map En.bare)).getD [] := by
    intro g ks
    unfold flat
    rw [List.map_flatMap, List.flatMap_map]
    refine congrArg (fun f => List.flatMap f ks) ?_
    funext k
    cases g k <;> rfl
  unfold gls Bl.ls
  rw [hfl, hfl, h.vs_ h7]
  refine congrArg (fun f => List.flatMap f _) ?_
  funext k
  rw [h.al k]
theorem nset_pop (M : Nat) (h : M ≤ 7) : Qu.pop 64 (nset M) = M := by
  have : ∀ j : Fin 8, Qu.pop 64 (nset j.val) = j.val := by decide +kernel
  exact this ⟨M, by omega⟩
theorem Bo.maj (h : Bo w0 w ha va M bs b x gh gb) (h7 : M ≤ 7) : Qu.majB x.vset x.nd = decide (M < 2 * (gls M gb).length) := by
  have hand : x.vset &&& nset M = x.vset := by
    refine Nat.eq_of_testBit_eq fun i => ?_
    rw [Nat.testBit_and]
    by_cases hi : i < 64
    · have h1 := Qu.inB_nat (nset M) i hi
      rw [nset_has _ h7] at h1
      rw [← h1, x.vset_bit i hi]
      cases hg : gb i with
      | none =>
        have : (x.g i).isSome = false := by rw [h.some_, hg]; rfl
        simp [this]
      | some l =>
        have := h.keyb i l hg
        have h2 : (i : Int) < (M : Int) := by omega
        simp [h2]
    · have : x.vset.testBit i = false := Nat.testBit_lt_two_pow (Nat.lt_of_lt_of_le x.vset_lt (show 2 ^ 64 ≤ 2 ^ i from Nat.pow_le_pow_right (n := 2) (by decide) (by omega)))
      rw [this, Bool.false_and]
  have hlen : Qu.pop 64 x.vset = (gls M gb).length := by
    have h1 := congrArg List.length x.mem_set
    unfold Qu.mem_ at h1
    rw [List.length_map, List.length_map, ← List.countP_eq_length_filter, ← Qu.pop_count] at h1
    rw [h1, h.vs_ h7]
    unfold gls
    rw [List.length_map]
  unfold Qu.majB
  rw [h.nd, hand, nset_pop M h7, hlen]
end
end Go.Proofs.Ytapfggpeodpflaa

namespace Go.Proofs.Ytapfggpeodpflaa
open Go.ChangeShapes Go.WideShapes Go.ChangeAt Go.RowKit
open Go.Deep (oneCellFields open_slice hone_of)

section
variable {H : Type} {enc : TypeId × Value → H} {P : Program} {W : World} {r : Reach} {b0 : Nat} {t e : TypeId} {v : Value} {d : DataW H} {p : List MemPlace}

theorem dec_pairs2 {f0 f1 : Field} (ht : P.underlying t = some (.slice e)) (hs : P.underlying e = some (.struct #[f0, f1])) (hone : oneCellFields P #[f0, f1] = true) (hC : P.cellsOf e = 2) (h0 : P.underlying f0.type = some (.int .i64)) (h1 : P.underlying f1.type = some (.int .i64))
    (hok : Value.okWide P W r b0 t v) (h : DataW.Trod enc P W 0 (fun _ => true) true t v d p) :
    ∃ (A : Option Addr) (n c : Nat) (ps : List (Int × Int)), v = .slice A n c ∧ Rd W W.heap.size 2 A n c (pairs ps) ∧ ps.length = n ∧ ∀ p ∈ ps, (Lit.int .i64 p.2).wf = true := by
  obtain ⟨A, n, c, rfl⟩ := okWide_slice ht hok
  obtain ⟨fuel, hf⟩ := h
  rcases open_slice ht hf with ⟨hcs, _⟩ | ⟨x, l, c', m, k, D, Pl, hcs, _, hl, hm, hmm, _, hi⟩
  · simp [Value.cells] at hcs
    obtain ⟨rfl, rfl, rfl⟩ := hcs
    exact ⟨_, _, _, [], rfl, Rd.nil_, rfl, fun _ h => by cases h⟩
  · simp [Value.cells] at hcs
    obtain ⟨rfl, rfl, rfl⟩ := hcs
    simp only [if_true] at hmm
    rw [hC] at hi
    have each : ∀ i, ∃ q : Int × Int, (i < n → W.cell? (x.add (i * 2)) = some (.int .i64 q.1) ∧ W.cell? (x.add (i * 2 + 1)) = some (.int .i64 q.2)) ∧ (Lit.int .i64 q.2).wf = true := by
      intro i
      by_cases hin : i < n
      · obtain ⟨cs', hc, ht'⟩ := hi i (by omega)
        obtain ⟨ys, n', _, _, hlen, hyl, hfl⟩ := DataW.trod_struct hs ht'
        obtain ⟨_, hcl, hat⟩ := World.cells?_some hc
        obtain ⟨o0, k0⟩ := hone_of hone 0 f0 rfl
        obtain ⟨o1, k1⟩ := hone_of hone 1 f1 rfl
        match cs', hcl with
        | [u0, u1], _ =>
          match ys, hyl with
          | [y0, y1], _ =>
            have g0 := hfl 0 f0 rfl
            have g1 := hfl 1 f1 rfl
            rw [o0, k0] at g0
            rw [o1, k1] at g1
            obtain ⟨a, ha, _, _⟩ := DataW.trod_int h0 g0
            obtain ⟨b, hb, _, hwb⟩ := DataW.trod_int h1 g1
            cases ha
            cases hb
            have c0 := hat 0 (by decide)
            have c1 := hat 1 (by decide)
            refine ⟨(a, b), fun _ => ⟨?_, ?_⟩, hwb⟩
            · simpa [Addr.add] using c0
            · rw [← Go.Deep.add_add]; exact c1
      · exact ⟨(0, 0), fun h => absurd h hin, by decide⟩
    obtain ⟨g, hg⟩ := Classical.axiomOfChoice each
    refine ⟨_, n, c, (List.range n).map g, rfl, ⟨hl, hm, by rw [pairs_len]; simp, fun hn => ?_⟩, by simp, fun p hp => by obtain ⟨i, _, rfl⟩ := List.mem_map.1 hp; exact (hg i).2⟩
    obtain ⟨b, off, spot⟩ := x
    have hc0 := ((hg 0).1 hn).1
    have hspot : spot = none := by simpa [Addr.add] using World.cell?_spot hc0
    subst hspot
    refine ⟨b, off, rfl, ?_, fun j u hu => ?_⟩
    · have := World.block_lt_of_cell? W _ hc0
      simpa [addOff] using this
    · have hj : j < (pairs ((List.range n).map g)).length := (List.getElem?_eq_some_iff.1 hu).1
      rw [pairs_len] at hj
      simp only [List.length_map, List.length_range] at hj
      have hp := pairs_get ((List.range n).map g) (j / 2) (g (j / 2)) (by simp [show j / 2 < n by omega])
      have hq := (hg (j / 2)).1 (by omega)
      rcases Nat.mod_two_eq_zero_or_one j with hm2 | hm2
      · rw [show j / 2 * 2 = j by omega] at hp hq
        rw [hp.1] at hu
        rw [← addOff, hq.1, hu]
      · rw [show j / 2 * 2 + 1 = j by omega] at hp hq
        rw [hp.2] at hu
        rw [← addOff, hq.2, hu]
end

end Go.Proofs.Ytapfggpeodpflaa

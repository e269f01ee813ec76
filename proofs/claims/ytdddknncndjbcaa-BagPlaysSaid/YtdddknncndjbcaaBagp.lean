/- A bag, the law's own numbers, and a call's box, beside one another. -/
import Derived.Test.YtdddknncndjbcaaBaga
import Derived.Test.YtdddknncndjbcaaRowkitb
namespace Go.Proofs.Ytdddknncndjbcaa
open Go.RowKit

/-- The box of a call. -/
def Bx (w : World) (p : Nat) (x y : Int) : Prop := w.heap[p]? = some (.cells #[.int .i64 x, .int .i64 y] 29 (0, 0))
theorem Bx.c0 {wr : World} {p : Nat} {x y : Int} (h : Bx wr p x y) : wr.cell? ⟨p, 0, none⟩ = some (.int .i64 x) := cell_of_row wr p 0 _ _ _ h
theorem Bx.c1 {wr : World} {p : Nat} {x y : Int} (h : Bx wr p x y) : wr.cell? ⟨p, 1, none⟩ = some (.int .i64 y) := cell_of_row wr p 1 _ _ _ h
structure RS (B : Nat) (w wr : World) (g : Nat) (bv wv : Value) (t : Bv) (lw : List Int) : Prop where
  bag : Bg wr B g bv t
  own : wr.ownsRow B 3 1 wv lw.length (is lw)
  sep : ∀ q, wv.ownBlock = some q → ¬ Foot g bv q
  bel : Below B w wr
  size : B ≤ wr.heap.size
structure PS (B : Nat) (w wr : World) (p : Nat) (kd nn : Int) (g : Nat) (bv wv : Value) (t : Bv) (lw : List Int) : Prop where
  rs : RS B w wr g bv wv t lw
  box : Bx wr p kd nn
  pne : ¬ Foot g bv p ∧ wv.ownBlock ≠ some p
section
variable {B p g : Nat} {w wr w' : World} {kd nn : Int} {bv wv v' : Value} {t t' : Bv} {lw lw' : List Int}
theorem RS.foot (h : RS B w wr g bv wv t lw) {q : Nat} (hq : wv.ownBlock = some q) : B ≤ q ∧ q < wr.heap.size := h.own.lt q hq
theorem RS.below (h : RS B w wr g bv wv t lw) (hb : Below wr.heap.size wr w') : RS B w w' g bv wv t lw :=
  ⟨h.bag.below hb, (Keeps.of_below (F := fun _ => False) hb).own h.own (fun _ _ h => h), h.sep, h.bel.trans (hb.mono h.size), Nat.le_trans h.size hb.size⟩
theorem PS.below (h : PS B w wr p kd nn g bv wv t lw) (hb : Below wr.heap.size wr w') : PS B w w' p kd nn g bv wv t lw := ⟨h.rs.below hb, row_below h.box hb, h.pne⟩
theorem RS.boxed (h : RS B w wr g bv wv t lw) (kd nn : Int) : PS B w (wr.alloc (.cells #[.int .i64 kd, .int .i64 nn] 29)) wr.heap.size kd nn g bv wv t lw :=
  ⟨h.below ((Below.refl _ _).alloc (Nat.le_refl _) _), heap_alloc_new wr _, fun e => by have := (h.bag.foot e).2; omega, fun e => by have := (h.foot e).2; omega⟩
/-- A call turned the bag. -/
theorem PS.turn (h : PS B w wr p kd nn g bv wv t lw) (k : Mv wr B g bv t' w') : ∃ bv', PS B w w' p kd nn g bv' wv t' lw := by
  obtain ⟨v', k1, k2, k3⟩ := k
  have hp : p < wr.heap.size := (Array.getElem?_eq_some_iff.1 h.box).1
  have hlow : ∀ q, q < wr.heap.size → ¬ Foot g bv q → ¬ Foot g v' q := by
    rintro q hq hn (e | e)
    · exact hn (.inl e)
    · rcases k3 with k3 | k3
      · exact hn (.inr (k3 ▸ e))
      · have := k3 q e
        omega
  refine ⟨v', ⟨k1, k2.own h.rs.own (fun q hq => h.rs.sep q hq), fun q hq => hlow q (h.rs.foot hq).2 (h.rs.sep q hq), h.rs.bel.trans (k2.below h.rs.size (fun i hi => (h.rs.bag.foot hi).1)), Nat.le_trans h.rs.size k2.size⟩, k2.row h.box h.pne.1, hlow p hp h.pne.1, h.pne.2⟩
/-- The law turned its own numbers. -/
theorem PS.law (h : PS B w wr p kd nn g bv wv t lw) (k : Keeps (fun i => wv.ownBlock = some i) wr w') (ho : w'.ownsRow B 3 1 v' lw'.length (is lw')) (hv : v'.ownBlock = wv.ownBlock ∨ ∀ q, v'.ownBlock = some q → wr.heap.size ≤ q) : PS B w w' p kd nn g bv v' t lw' := by
  have hp : p < wr.heap.size := (Array.getElem?_eq_some_iff.1 h.box).1
  refine ⟨⟨h.rs.bag.keeps k (fun i hi e => h.rs.sep i e hi), ho, fun q hq hF => ?_, h.rs.bel.trans (k.below h.rs.size (fun i hi => (h.rs.foot hi).1)), Nat.le_trans h.rs.size k.size⟩, k.row h.box h.pne.2, h.pne.1, fun e => ?_⟩
  · rcases hv with e | e
    · exact h.rs.sep q (e ▸ hq) hF
    · have := e q hq
      have := (h.rs.bag.foot hF).2
      omega
  · rcases hv with e2 | e2
    · exact h.pne.2 (e2 ▸ e)
    · have := e2 p e
      omega
/-- The bag is another one. -/
theorem PS.other {g' : Nat} {bv' : Value} {t2 : Bv} (h : PS B w wr p kd nn g bv wv t2 lw) (hb : Bg wr B g' bv' t') (hs : ∀ q, Foot g' bv' q → wv.ownBlock ≠ some q ∧ q ≠ p) : PS B w wr p kd nn g' bv' wv t' lw :=
  ⟨⟨hb, h.rs.own, fun q hq hF => (hs q hF).1 hq, h.rs.bel, h.rs.size⟩, h.box, fun hF => (hs p hF).2 rfl, h.pne.2⟩
theorem PS.quit (h : PS B w wr p kd nn g bv wv t lw) : RS B w wr g bv wv t lw := h.rs

theorem law_app {x : Int} {o : Oper} {ops : Array Oper} {rest : List Oper} {a : Act} {Q : Exit → Act → World → Prop} (h : PS B w wr p kd nn g bv wv t lw) (hf : lw.length < 1000) (hgd : o.guard = none) (s y : Operand)
    (ho : o.op = .call { callee := .builtin .append, args := #[s, y], argTypes := #[26, 26] }) (hs : a.eval s = wv) (hy : a.eval y = .slice (some ⟨wr.heap.size, 0, none⟩) 1 1)
    (hk : ∀ v' w', PS B w w' p kd nn g bv v' t (lw ++ [x]) → wpList Try.prog ops Q rest (a.put o.dst v') w') :
    wpList Try.prog ops Q (o :: rest) a (wr.alloc (.cells #[.int .i64 x] 3)) := by
  have hb : Below wr.heap.size wr (wr.alloc (.cells #[.int .i64 x] 3)) := (Below.refl _ _).alloc (Nat.le_refl _) _
  refine wpL_app hgd s y _ _ ho Ei hs hy (h.below hb).rs.own (Src.lit (w := wr) Try.underlying26 #[.int .i64 x] rfl (by intro u hu; simp at hu; subst hu; rfl)) (by unfold maxLen; omega) (by omega) (by have := h.rs.size; simp; omega) ?_
  intro v' w' ho' hg' hat
  refine hk v' w' (h.law ((Keeps.of_below hb).grown hg' (fun q hq => .inl hq)) (by rw [List.length_append, is_app]; exact ho') ?_)
  rcases hat with e | e
  · exact .inl e
  · refine .inr fun q hq => ?_
    rw [e] at hq
    cases hq
    simp
theorem PS.at_ {q c k : Nat} (h : PS B w wr p kd nn g bv (.slice (some ⟨q, 0, none⟩) lw.length c) t lw) (hk : k < lw.length) : wr.cell? ⟨q, k, none⟩ = some (.int .i64 (lw.getD k 0)) := by
  obtain ⟨b, o, u, hb, _, hu, hc⟩ := (ownsRow_rd h.rs.own).at_ hk
  cases hb
  rw [is_get hk] at hu
  obtain rfl := Option.some.inj hu
  rwa [Nat.zero_add] at hc
theorem own_zero {A : Option Addr} {c k : Nat} (h : wr.ownsRow B 3 1 (.slice A lw.length c) lw.length (is lw)) (hk : k < lw.length) : ∃ q, A = some ⟨q, 0, none⟩ := by
  rcases h.2 with ⟨hv, hx⟩ | ⟨g', cap', cur, hv, _⟩
  · omega
  · cases hv
    exact ⟨_, rfl⟩
theorem Bg.low {B' : Nat} (h : Bg wr B' g bv t) (hb : B ≤ B') : Bg wr B g bv t := ⟨h.row, ownsRow_low h.own hb, h.ne, Nat.le_trans hb h.lo, h.room, h.most⟩
/-- append, at its operation. -/
theorem wp_app {P : Program} {o : Oper} {a : Act} {K : Act → World → Prop} {Q : Exit → Act → World → Prop} (s x : Operand) (t tx : TypeId)
    (ho : o.op = .call { callee := .builtin .append, args := #[s, x], argTypes := #[t, tx] })
    {base m n sz bt : Nat} {e : TypeId} {z v y : Value} {xs news : List Value} (hT : Elem P t e z sz bt) (hs : a.eval s = v) (hx : a.eval x = y) (hown : w.ownsRow base e sz v n xs) (hsrc : Src P sz tx y m news w)
    (h63 : n + m ≤ maxLen) (hbytes : (n + m) * bt ≤ 140737488355328) (hbase : base ≤ w.heap.size)
    (h : ∀ v' w', w'.ownsRow base e sz v' (n + m) (xs ++ news) → w.grownBy w' v.ownBlock → (v'.ownBlock = v.ownBlock ∨ v'.ownBlock = some w.heap.size) → K (a.put o.dst v') w') : o.wp P a w K Q := by
  obtain ⟨v', w', hr, h1, h2, h3⟩ := run_app (ty := o.type) hT hown hsrc h63 hbytes hbase
  unfold Oper.wp execOp
  simp only [ho, resolve, invoke, builtin, Sem.run_bind, Sem.run_pure, Result.andThen_ok, List.map_toArray, List.map_cons, List.map_nil, hs, hx, hr]
  exact h _ _ h1 h2 h3
theorem take_in {k : Nat} (hi : t.inb (k : Int) = true) : t.take (k : Int) = { t with l := t.l.take k ++ t.l.drop (k + 1) } := by
  unfold Bv.take
  rw [hi]
  rfl
theorem get_in {k : Nat} (hi : t.inb (k : Int) = true) : t.get (k : Int) = t.l.getD k 0 := by
  unfold Bv.get
  rw [hi]
  rfl
/-- What lies behind place k. -/
theorem tail_src {q c k j : Nat} (h : wr.ownsRow B 3 1 (.slice (some ⟨q, 0, none⟩) lw.length c) lw.length (is lw)) (hj : j = k + 1) (hk : k < lw.length) :
    ∃ A : Addr, (if c = j then some (⟨q, 0, none⟩ : Addr) else some ⟨q, j, none⟩) = some A ∧ Hid (∀ w1, (∀ o, w1.cell? ⟨q, o, none⟩ = wr.cell? ⟨q, o, none⟩) → Src Try.prog 1 26 (.slice (some A) (lw.length - j) (c - j)) (lw.length - j) (is (lw.drop j)) w1) := by
  have hrd := ownsRow_rd h
  by_cases hc : c = j
  · refine ⟨⟨q, 0, none⟩, by simp [hc], Lib.hid fun w1 _ => ?_⟩
    have hnc := hrd.1
    have h0 : lw.length - j = 0 := by omega
    have h1 : lw.drop j = [] := List.drop_eq_nil_of_le (by omega)
    rw [h0, h1]
    exact Src.ofSlice w1 Try.underlying26 _ 0 _ [] rfl (fun k u hu => by simp at hu) (fun u hu => by cases hu)
  · refine ⟨⟨q, j, none⟩, by simp [hc], Lib.hid fun w1 hw => ?_⟩
    refine Src.ofSlice w1 Try.underlying26 _ (lw.length - j) _ _ (by rw [is_len, List.length_drop]; omega) (fun k u hu => ?_) (is_one _)
    rw [addOff, hw]
    rw [is_drop, List.getElem?_drop] at hu
    obtain ⟨b, o, hb, _, hcell⟩ := hrd.2.2.2 (by omega)
    cases hb
    have := hcell (j + k) u hu
    rwa [Nat.zero_add] at this
/-- The two appends: what lay ahead of a place, and behind it, anew. -/
theorem anew_first {q c k : Nat} {o : Oper} {a : Act} {K : Act → World → Prop} {Q : Exit → Act → World → Prop} (h : PS B w wr p kd nn g bv (.slice (some ⟨q, 0, none⟩) lw.length c) t lw) (hk : k < lw.length) (hl : lw.length < 1000) (s x : Operand)
    (ho : o.op = .call { callee := .builtin .append, args := #[s, x], argTypes := #[26, 26] }) (hs : a.eval s = .slice (some ⟨wr.heap.size, 0, none⟩) 0 0) (hx : a.eval x = .slice (some ⟨q, 0, none⟩) k c)
    (hK : ∀ v' w', w'.ownsRow wr.heap.size 3 1 v' k (is (lw.take k)) → Below wr.heap.size wr w' → K (a.put o.dst v') w') : o.wp Try.prog a (wr.alloc (.cells #[] 3)).drew K Q := by
  have hb : Below wr.heap.size wr (wr.alloc (.cells #[] 3)) := (Below.refl _ _).alloc (Nat.le_refl _) _
  have hpre := ownsRow_pre h.rs.own (Nat.le_of_lt hk)
  refine wp_app s x _ _ ho Ei hs hx (drew_own (World.ownsRow_lit (base := wr.heap.size) wr #[] 0 (Nat.le_refl _) (Nat.zero_le _) rfl)) (((ownsRow_rd hpre).below hb.drew).src Try.underlying26 (fun u hu => is_one lw u (List.mem_of_mem_take hu))) (by unfold maxLen; omega) (by omega) (by show _ ≤ (wr.alloc _).heap.size; simp) ?_
  intro v' w' ho' hg' _
  refine hK v' w' ?_ (hb.drew.grown hg' (by show _ ≤ (wr.alloc _).heap.size; simp) (fun j e => by cases e; exact Nat.le_refl _))
  rw [Nat.zero_add] at ho'
  rw [is_take]
  exact ho'
theorem anew_next {q c k j : Nat} {A : Addr} {w5 : World} {v5 : Value} {o : Oper} {a : Act} {K : Act → World → Prop} {Q : Exit → Act → World → Prop} (h : PS B w wr p kd nn g bv (.slice (some ⟨q, 0, none⟩) lw.length c) t lw) (hk : k < lw.length) (hj : j = k + 1) (hl : lw.length < 1000) (s x : Operand)
    (ho : o.op = .call { callee := .builtin .append, args := #[s, x], argTypes := #[26, 26] }) (hs : a.eval s = v5) (hx : a.eval x = .slice (some A) (lw.length - j) (c - j))
    (h5 : w5.ownsRow wr.heap.size 3 1 v5 k (is (lw.take k))) (hb5 : Below wr.heap.size wr w5)
    (hsrc : ∀ w1, (∀ o, w1.cell? ⟨q, o, none⟩ = wr.cell? ⟨q, o, none⟩) → Src Try.prog 1 26 (.slice (some A) (lw.length - j) (c - j)) (lw.length - j) (is (lw.drop j)) w1)
    (hK : ∀ v' w', PS B w w' p kd nn g bv v' t (lw.take k ++ lw.drop (k + 1)) → K (a.put o.dst v') w') : o.wp Try.prog a w5 K Q := by
  have hq : q < wr.heap.size := (h.rs.foot (q := q) rfl).2
  refine wp_app s x _ _ ho Ei hs hx h5 (hsrc w5 (fun o => hb5.cell (p := ⟨q, o, none⟩) hq)) (by unfold maxLen; omega) (by omega) hb5.size ?_
  intro v' w' ho' hg' _
  have hb6 : Below wr.heap.size wr w' := hb5.grown hg' hb5.size (fun j e => (h5.lt j e).1)
  refine hK v' w' (h.law (Keeps.of_below hb6) (ownsRow_low (base := wr.heap.size) ?_ h.rs.size) (.inr fun q hq => (ho'.lt q hq).1))
  have e : k + (lw.length - j) = (lw.take k ++ lw.drop (k + 1)).length := by rw [List.length_append, List.length_take, List.length_drop]; omega
  rw [← e, is_app, ← hj]
  exact ho'
/-- A clone beside the bag that it is of: what is done to the one does not reach the other. -/
theorem PS.aside {W w3 w4 : World} {g2 : Nat} {v2 : Value} {t2 : Bv} (h : PS B w W p kd nn g bv wv t lw) (hl : Below W.heap.size W w3) (hb : Bg w3 W.heap.size g2 v2 t2) (hm : Mv w3 B g bv t' w4) :
    ∃ bv4, PS B w w4 p kd nn g bv4 wv t' lw ∧ Bg w4 W.heap.size g2 v2 t2 ∧ ∀ i, Foot g2 v2 i → ¬ Foot g bv4 i := by
  obtain ⟨bv4, hP4⟩ := (h.below hl).turn hm
  obtain ⟨v', k1, k2, k3⟩ := hm
  have hlow : ∀ i, Foot g2 v2 i → ¬ Foot g bv i := fun i hi hF => by
    have h1 := (hb.foot hi).1
    have h2 := (h.rs.bag.foot hF).2
    omega
  have hp : p < W.heap.size := (Array.getElem?_eq_some_iff.1 h.box).1
  refine ⟨v', ⟨⟨k1, ?_, ?_, ?_, ?_⟩, ?_, ?_⟩, hb.keeps k2 hlow, ?_⟩
  · exact hP4.rs.own
  · intro q hq hF
    rcases hF with e | e
    · exact (h.below hl).rs.sep q hq (.inl e)
    · rcases k3 with k3 | k3
      · exact (h.below hl).rs.sep q hq (.inr (k3 ▸ e))
      · have := k3 q e
        have := ((h.below hl).rs.foot hq).2
        omega
  · exact hP4.rs.bel
  · exact hP4.rs.size
  · exact hP4.box
  · refine ⟨fun hF => ?_, h.pne.2⟩
    rcases hF with e | e
    · exact h.pne.1 (.inl e)
    · rcases k3 with k3 | k3
      · exact h.pne.1 (.inr (k3 ▸ e))
      · have := k3 p e
        have := hl.size
        omega
  · intro i hi hF
    rcases hF with e | e
    · exact hlow i hi (.inl e)
    · rcases k3 with k3 | k3
      · exact hlow i hi (.inr (k3 ▸ e))
      · have := k3 i e
        have := (hb.foot hi).2
        omega
theorem Bg.survive {w4 w5 : World} {B2 g2 : Nat} {v2 bv4 : Value} {t2 t5 : Bv} (hb : Bg w4 B2 g2 v2 t2) (hm : Mv w4 B g bv4 t5 w5) (hv : ∀ i, Foot g2 v2 i → ¬ Foot g bv4 i) : Bg w5 B2 g2 v2 t2 := by
  obtain ⟨_, _, k, _⟩ := hm
  exact hb.keeps k hv
theorem PS.became {W w5 : World} {g2 : Nat} {v2 bv5 : Value} {t2 t5 : Bv} (h : PS B w W p kd nn g bv wv t lw) (h5 : PS B w w5 p kd nn g bv5 wv t5 lw) (hb : Bg w5 W.heap.size g2 v2 t2) : PS B w w5 p kd nn g2 v2 wv t2 lw := by
  have hp : p < W.heap.size := (Array.getElem?_eq_some_iff.1 h.box).1
  refine h5.other (hb.low h.rs.size) (fun q hq => ⟨fun e => ?_, ?_⟩)
  · have h1 := (hb.foot hq).1
    have h2 := (h.rs.foot e).2
    omega
  · have h1 := (hb.foot hq).1
    omega
end
end Go.Proofs.Ytdddknncndjbcaa

/- A vow whose device may lose its power: what was promised, and what was to be promised. -/
import Derived.Test.YteakdmabdfpiiaaVowp
namespace Go.Proofs.Yteakdmabdfpiiaa
set_option maxRecDepth 20000
open Go.RowKit

theorem write_fuse (d : Dv) (x : Int) (l : List UInt8) (j : Nat) : (d.write x l j).1.fuse ≤ d.fuse := by
  induction j with
  | zero => exact Nat.le_refl _
  | succ j ih =>
    rw [Dv.write]
    split
    · exact ih
    · show (d.write x l j).1.fuse - 1 ≤ d.fuse
      omega
theorem save_fuse (d : Dv) (x : Int) (m : Nat) (l : List UInt8) : (d.save x m l).1.fuse ≤ d.fuse := by
  unfold Dv.save
  split
  · exact Nat.le_refl _
  · have h := write_fuse d x (makeOf m l) (sectorsOf l.length)
    split
    · exact h
    · unfold Dv.flush
      split
      · exact h
      · split
        · show _ - 1 ≤ _
          omega
        · show _ - 1 ≤ _
          omega
/-- Terms do not fall, and a vote stays in its term. -/
def Le (p q : Vv) : Prop := p.term ≤ q.term ∧ (p.term = q.term → p.vote ≠ 0 → q.vote = p.vote)
theorem Le.refl (p : Vv) : Le p p := ⟨Nat.le_refl _, fun _ _ => rfl⟩
theorem Le.trans {p q r : Vv} (h : Le p q) (k : Le q r) : Le p r := by
  refine ⟨Nat.le_trans h.1 k.1, fun e hv => ?_⟩
  have e1 : p.term = q.term := Nat.le_antisymm h.1 (by have := k.1; omega)
  have h1 := h.2 e1 hv
  rw [← h1]
  exact k.2 (by omega) (by rw [h1]; exact hv)
theorem raised_le (p : Vv) (x : Nat) (q : Vv) (h : p.raised x = .inr q) : Le p q ∧ q = ⟨x, 0⟩ ∧ p.term < x ∧ x ≤ 4611686018427387904 := by
  unfold Vv.raised at h
  split at h
  · cases h
  · split at h
    · cases h
    · split at h
      · cases h
      · cases h
        exact ⟨⟨by show p.term ≤ x; omega, fun e _ => by have e : p.term = x := e; omega⟩, rfl, by omega, by omega⟩
theorem casted_le (p : Vv) (x : Nat) (n : Int) (q : Vv) (h : p.casted x n = .inr q) : Le p q ∧ q.term = x ∧ q.node = n := by
  unfold Vv.casted at h
  split at h
  · cases h
  · split at h
    · cases h
    · split at h
      · cases h
      · split at h
        · cases h
        · cases h
          refine ⟨⟨by show p.term ≤ x; omega, fun e hv => ?_⟩, rfl, ?_⟩
          · have e : p.term = x := e
            omega
          · rw [node_succ]
            omega
theorem raised_zero (p : Vv) (x : Nat) (h : p.raised x = .inl 0) : p.term = x := by
  unfold Vv.raised at h
  split at h
  · cases h
  · split at h
    · cases h
    · split at h
      · rename_i h3
        exact h3.symm
      · cases h
theorem casted_zero (p : Vv) (x : Nat) (n : Int) (h : p.casted x n = .inl 0) : p.term = x ∧ p.node = n := by
  unfold Vv.casted at h
  split at h
  · cases h
  · split at h
    · cases h
    · split at h
      · rename_i h1 _ h3
        refine ⟨h3.1.symm, ?_⟩
        unfold Vv.node
        rw [if_neg (by omega)]
        omega
      · split at h
        · cases h
        · cases h
/-- What a step may leave. -/
structure Out (base : Int) (d : Dv) (t : Tv) (p : Vv) (o : Sum Int Vv) (r : Dv × Tv × Vv × Int) : Prop where
  n : r.1.n = d.n
  next : r.2.1.next ≤ t.next + 1
  place : 0 ≤ r.2.1.place ∧ r.2.1.place ≤ 1
  tb : r.2.1.base = base
  ts : r.2.1.size = 1
  x0 : 0 < r.2.1.next
  vote : r.2.2.1.vote ≤ 7
  way : (Good base r.1 r.2.1 r.2.2.1 ∧ r.2.2.1 = (res p o).1 ∧ r.2.2.2 = (res p o).2) ∨
    (∃ q, o = .inr q ∧ r.1.down = true ∧ r.2.2.1 = p ∧ r.2.2.2 = 50 ∧ d.fuse ≠ 0 ∧
      ∀ ks d3, d3 = r.1.crash ks → d3.n = d.n ∧ (openTv base 1 (d3.bytes base (2 * 1))).next ≤ t.next + 1 ∧ (Good base d3 (openTv base 1 (d3.bytes base (2 * 1))) p ∨ Good base d3 (openTv base 1 (d3.bytes base (2 * 1))) q))
theorem step_out {base : Int} {d : Dv} {t : Tv} {p : Vv} (h : Good base d t p) (hx : t.next < 250) (o : Sum Int Vv) (ho : Small o) : Out base d t p o (vstep d t p o) := by
  have hpl := stands_place h.st
  cases o with
  | inl e => exact ⟨rfl, Nat.le_succ _, hpl, h.st.tb, h.st.ts, h.st.next, h.vote, .inl ⟨h, rfl, rfl⟩⟩
  | inr q =>
    have ht : q.text.length ≤ 65536 := by rw [Vv.text_len]; decide
    have hf := save_fuse d (t.base + t.free * t.size) t.next q.text
    have hof := h.st.ok.fuse
    rcases Dv.save_pw d (t.base + t.free * t.size) t.next q.text with he | he
    · obtain ⟨g1, g2, g3, g4⟩ := good_done (p := p) (q := q) h (by omega) ho.1 ho.2 he (by show (d.save _ _ _).1.fuse < _; omega)
      have hp2 := stands_place g1.st
      exact ⟨g4, Nat.le_of_eq g3, hp2, g1.st.tb, g1.st.ts, g1.st.next, by show (vsave d t p q).2.2.1.vote ≤ 7; rw [g2]; exact ho.1, .inl ⟨by show Good base (vsave d t p q).1 (vsave d t p q).2.1 (vsave d t p q).2.2.1; rw [g2]; exact g1, g2, he⟩⟩
    · have hne : (d.save (t.base + t.free * t.size) t.next q.text).2 ≠ 0 := by rw [he]; decide
      obtain ⟨_, _, _, s3, _, s5⟩ := Dv.save_fell d h.up h.st.calm _ _ q.text ht hne
      have hmod : (t.next + 1) % 18446744073709551616 = t.next + 1 := Nat.mod_eq_of_lt (by omega)
      have e1 : (vsave d t p q).2.1 = t.took := by unfold vsave Tv.after; rw [he]; rfl
      have e2 : (vsave d t p q).2.2.1 = p := by unfold vsave; rw [he]; rfl
      have hfz : d.fuse ≠ 0 := fun hz => hne (save_calm d h.up hz _ _ _).1
      refine ⟨s3, ?_, ?_, ?_, ?_, ?_, ?_, .inr ⟨q, rfl, s5, e2, he, hfz, fun ks d3 hd3 => ?_⟩⟩
      · show (vsave d t p q).2.1.next ≤ _
        rw [e1]; show (t.next + 1) % _ ≤ _; omega
      · show 0 ≤ (vsave d t p q).2.1.place ∧ (vsave d t p q).2.1.place ≤ 1
        rw [e1]; exact hpl
      · show (vsave d t p q).2.1.base = _
        rw [e1]; exact h.st.tb
      · show (vsave d t p q).2.1.size = _
        rw [e1]; exact h.st.ts
      · show 0 < (vsave d t p q).2.1.next
        rw [e1]; show 0 < (t.next + 1) % _; omega
      · show (vsave d t p q).2.2.1.vote ≤ 7
        rw [e2]; exact h.vote
      · obtain ⟨c1, c2, c3, c4, c5, c6, _⟩ := stands_crash h.st h.up (by decide) q.text ht (by rw [Vv.sect]; decide) (by omega) ks d3 hd3
        refine ⟨c4, c5, ?_⟩
        rcases c6 with ⟨c6, c7⟩ | ⟨c6, c7⟩
        · left
          refine ⟨c1, c2, ?_, h.vote, h.tm⟩
          unfold Told
          rw [c6, c7]
          exact h.told
        · right
          refine ⟨c1, c2, .inr ⟨?_, c7, ho.2, ho.1⟩, ho.1, ho.2⟩
          rw [c6]
          exact h.st.next
theorem good_crash {base : Int} {d : Dv} {t : Tv} {p : Vv} (h : Good base d t p) (hx : t.next < 256) (ks : List Int) (d3 : Dv) (hd3 : d3 = d.crash ks) : Good base d3 (openTv base 1 (d3.bytes base (2 * 1))) p ∧ (openTv base 1 (d3.bytes base (2 * 1))).next ≤ t.next ∧ d3.n = d.n := by
  obtain ⟨c1, c2, _, c4, c5, c6, c7⟩ := stands_calm h.st hx ks d3 hd3
  refine ⟨⟨c1, c2, ?_, h.vote, h.tm⟩, c5, c4⟩
  unfold Told
  rw [c6, c7]
  exact h.told
/-- What is told of a round. -/
def Rel (p p' : Vv) (x : Nat) (kd nd f : Int) : Prop := Le p p' ∧ (f = 0 → p'.term = x ∧ (kd = 1 → p'.node = nd))
/-- Both calls of a round. -/
def vround (d : Dv) (t : Tv) (p : Vv) (x : Nat) (kd nd : Int) : Dv × Tv × Vv × Int :=
  if kd = 1 then vstep (vstep d t p (p.raised x)).1 (vstep d t p (p.raised x)).2.1 (vstep d t p (p.raised x)).2.2.1 ((vstep d t p (p.raised x)).2.2.1.casted x nd) else vstep d t p (p.raised x)
theorem res_le (p : Vv) (x : Nat) : Le p (res p (p.raised x)).1 := by
  cases h : p.raised x with
  | inl e => exact Le.refl _
  | inr q => exact (raised_le p x q h).1
theorem res_le2 (p : Vv) (x : Nat) (n : Int) : Le p (res p (p.casted x n)).1 := by
  cases h : p.casted x n with
  | inl e => exact Le.refl _
  | inr q => exact (casted_le p x n q h).1
theorem res_raise (p : Vv) (x : Nat) (h : (res p (p.raised x)).2 = 0) : (res p (p.raised x)).1.term = x := by
  cases e : p.raised x with
  | inl y =>
    rw [e] at h
    have h : y = 0 := h
    rw [h] at e
    exact raised_zero p x e
  | inr q => rw [(raised_le p x q e).2.1]; rfl
theorem res_cast (p : Vv) (x : Nat) (n : Int) (h : (res p (p.casted x n)).2 = 0) : (res p (p.casted x n)).1.term = x ∧ (res p (p.casted x n)).1.node = n := by
  cases e : p.casted x n with
  | inl y =>
    rw [e] at h
    have h : y = 0 := h
    rw [h] at e
    exact casted_zero p x n e
  | inr q => exact (casted_le p x n q e).2
/-- A round: what is promised then, whether the power went or not. -/
theorem round_out {base : Int} {d : Dv} {t : Tv} {p : Vv} (h : Good base d t p) (hx : t.next < 240) (x : Nat) (kd nd : Int) :
    (d.fuse = 0 → Good base (vround d t p x kd nd).1 (vround d t p x kd nd).2.1 (vround d t p x kd nd).2.2.1 ∧ (vround d t p x kd nd).2.1.next ≤ t.next + 2 ∧ (vround d t p x kd nd).1.n = d.n ∧ Rel p (vround d t p x kd nd).2.2.1 x kd nd (vround d t p x kd nd).2.2.2)
    ∧ (∀ ks d3, d3 = (vround d t p x kd nd).1.crash ks → ∃ p3, Good base d3 (openTv base 1 (d3.bytes base (2 * 1))) p3 ∧ (openTv base 1 (d3.bytes base (2 * 1))).next ≤ t.next + 2 ∧ d3.n = d.n ∧ Rel p p3 x kd nd (vround d t p x kd nd).2.2.2) := by
  have o1 := step_out h (by omega) (p.raised x) (raised_small p x)
  unfold vround
  by_cases hk : kd = 1
  · rw [if_pos hk]
    generalize hr : vstep d t p (p.raised x) = r at o1
    obtain ⟨d1, t1, v1, f1⟩ := r
    dsimp only at o1 ⊢
    rcases o1.way with ⟨g1, e1, _⟩ | ⟨q, hq, w1, w2, w3, w4, w5⟩
    · dsimp only at g1 e1
      have hle : Le p v1 := by rw [e1]; exact res_le p x
      have hn1 := o1.n
      have hx1 := o1.next
      dsimp only at hn1 hx1
      have o2 := step_out g1 (by omega) (v1.casted x nd) (casted_small v1 x nd)
      generalize vstep d1 t1 v1 (v1.casted x nd) = r2 at o2
      obtain ⟨d2, t2, v2, f2⟩ := r2
      have hn2 := o2.n
      have hx2 := o2.next
      have way2 := o2.way
      dsimp only at hn2 hx2 way2 ⊢
      have hrel : ∀ v, v = (res v1 (v1.casted x nd)).1 → f2 = (res v1 (v1.casted x nd)).2 → Rel p v x kd nd f2 := fun v hv hf => by
        subst hv
        exact ⟨hle.trans (res_le2 v1 x nd), fun h0 => ⟨(res_cast v1 x nd (hf.symm.trans h0)).1, fun _ => (res_cast v1 x nd (hf.symm.trans h0)).2⟩⟩
      refine ⟨fun hf => ?_, fun ks d3 hd3 => ?_⟩
      · rcases way2 with ⟨g2, e2, e3⟩ | ⟨q2, hq2, _, _, _, w4, _⟩
        · exact ⟨g2, by omega, by omega, hrel v2 e2 e3⟩
        · exfalso
          apply w4
          have := good_step h hf (by omega) (p.raised x) (raised_small p x)
          rw [hr] at this
          exact this.2.1
      · rcases way2 with ⟨g2, e2, e3⟩ | ⟨q2, hq2, _, e2, e3, _, w5⟩
        · obtain ⟨c1, c2, c3⟩ := good_crash g2 (by omega) ks d3 hd3
          exact ⟨v2, c1, by omega, by omega, hrel v2 e2 e3⟩
        · obtain ⟨c1, c2, c3⟩ := w5 ks d3 hd3
          have hl2 := (casted_le v1 x nd q2 hq2).1
          rcases c3 with c3 | c3
          · exact ⟨v1, c3, by omega, by omega, hle, fun h0 => by rw [e3] at h0; cases h0⟩
          · exact ⟨q2, c3, by omega, by omega, hle.trans hl2, fun h0 => by rw [e3] at h0; cases h0⟩
    · dsimp only at w1 w2 w3
      subst w2
      obtain ⟨hl, hqe, hlt, hmx⟩ := raised_le v1 x q hq
      have hd2 : (vstep d1 t1 v1 (v1.casted x nd)).1 = d1 ∧ (vstep d1 t1 v1 (v1.casted x nd)).2.2.2 ≠ 0 := by
        cases hc : v1.casted x nd with
        | inl e =>
          refine ⟨rfl, fun h0 => ?_⟩
          have h0 : e = 0 := h0
          rw [h0] at hc
          have := (casted_zero v1 x nd hc).1
          omega
        | inr q2 =>
          have hs : d1.save (t1.base + t1.free * t1.size) t1.next q2.text = (d1, 50) := by unfold Dv.save; rw [if_pos w1]
          refine ⟨?_, ?_⟩
          · show (d1.save _ _ _).1 = d1
            rw [hs]
          · show (d1.save _ _ _).2 ≠ 0
            rw [hs]; exact (by decide : (50 : Int) ≠ 0)
      refine ⟨fun hf => absurd hf w4, fun ks d3 hd3 => ?_⟩
      rw [hd2.1] at hd3
      obtain ⟨c1, c2, c3⟩ := w5 ks d3 hd3
      rcases c3 with c3 | c3
      · exact ⟨v1, c3, by omega, by omega, Le.refl _, fun h0 => absurd h0 hd2.2⟩
      · exact ⟨q, c3, by omega, by omega, hl, fun h0 => absurd h0 hd2.2⟩
  · rw [if_neg hk]
    generalize hr : vstep d t p (p.raised x) = r at o1
    obtain ⟨d1, t1, v1, f1⟩ := r
    have hn1 := o1.n
    have hx1 := o1.next
    have way := o1.way
    dsimp only at hn1 hx1 way ⊢
    have hrel : ∀ v, v = (res p (p.raised x)).1 → f1 = (res p (p.raised x)).2 → Rel p v x kd nd f1 := fun v hv hf => by
      subst hv
      exact ⟨res_le p x, fun h0 => ⟨res_raise p x (hf.symm.trans h0), fun h => absurd h hk⟩⟩
    refine ⟨fun hf => ?_, fun ks d3 hd3 => ?_⟩
    · rcases way with ⟨g2, e2, e3⟩ | ⟨_, _, _, _, _, w4, _⟩
      · exact ⟨g2, by omega, hn1, hrel v1 e2 e3⟩
      · exact absurd hf w4
    · rcases way with ⟨g2, e2, e3⟩ | ⟨q, hq, _, e2, e3, _, w5⟩
      · obtain ⟨c1, c2, c3⟩ := good_crash g2 (by omega) ks d3 hd3
        exact ⟨v1, c1, by omega, by omega, hrel v1 e2 e3⟩
      · obtain ⟨c1, c2, c3⟩ := w5 ks d3 hd3
        rcases c3 with c3 | c3
        · exact ⟨p, c3, by omega, by omega, Le.refl _, fun h0 => by rw [e3] at h0; cases h0⟩
        · exact ⟨q, c3, by omega, by omega, (raised_le p x q hq).1, fun h0 => by rw [e3] at h0; cases h0⟩
end Go.Proofs.Yteakdmabdfpiiaa

/- Two ballots that have taken the same votes, whatever their order. BallotOrder's beginning and end. -/
import Derived.Test.YtapfggpeodpflaaBordM
namespace Go.Proofs.Ytapfggpeodpflaa
open Go.RowKit
set_option maxRecDepth 20000

theorem find_rev {l : List Vo} (h : l.Pairwise fun u v => u.nd ≠ v.nd) (z : Int) : (l.reverse.find? fun v => decide (v.nd = z)) = l.find? fun v => decide (v.nd = z) := by
  induction l with
  | nil => rfl
  | cons u l ih =>
    obtain ⟨h1, h2⟩ := List.pairwise_cons.1 h
    rw [List.reverse_cons, List.find?_append, ih h2]
    by_cases hu : u.nd = z
    · have hn : (l.find? fun v => decide (v.nd = z)) = none := by
        rw [List.find?_eq_none]
        intro v hv e
        exact h1 v hv (hu.trans (of_decide_eq_true e).symm)
      rw [hn]
      simp [hu]
    · rw [List.find?_cons]
      simp [hu]
theorem src_rev (N sf : Int) (own : List En) {l : List Vo} (h : l.Pairwise fun u v => u.nd ≠ v.nd) (k : Nat) : Src N sf own l.reverse k = Src N sf own l k := by
  unfold Src
  rw [find_rev h]
theorem took_vs {x y : Bl} {N sf : Int} {own : List En} {va vb : List Vo} (hx : Took x N sf own va) (hy : Took y N sf own vb) (hs : ∀ k, Src N sf own va k = Src N sf own vb k) : x.vs = y.vs ∧ (flat x.ls).map En.bare = (flat y.ls).map En.bare := by
  have hk : ∀ k, (x.g k).map (fun l => l.es.map En.bare) = (y.g k).map (fun l => l.es.map En.bare) := fun k => by rw [hx k, hy k, hs k]
  have hv : x.vs = y.vs := by
    unfold Bl.vs keysOf
    refine List.filter_congr fun k _ => ?_
    rw [sv_some, sv_some]
    have := congrArg Option.isSome (hk k)
    simpa using this
  refine ⟨hv, ?_⟩
  have hfl : ∀ z : Bl, (flat z.ls).map En.bare = z.vs.flatMap fun k => ((z.g k).map (fun l => l.es.map En.bare)).getD [] := by
    intro z
    unfold flat Bl.ls
    rw [List.map_flatMap, List.flatMap_map]
    refine congrArg (fun f => List.flatMap f z.vs) ?_
    funext k
    cases z.g k <;> rfl
  rw [hfl, hfl, hv]
  refine congrArg (fun f => List.flatMap f y.vs) ?_
  funext k
  rw [hk k]
theorem oj_end {w0 w : World} {pa pb : Value} {N sf : Int} {own : List En} {l : List Vo} {tm bs : Nat} {oa ob : Option (Nat × Bl)} (h : OJ w0 w pa pb N sf own l l.reverse tm bs oa ob) (hl : l.Pairwise fun u v => u.nd ≠ v.nd) :
    votO oa = votO ob ∧ wonO oa = wonO ob ∧ ∀ b x b' y, oa = some (b, x) → ob = some (b', y) → (flat x.ls).map En.bare = (flat y.ls).map En.bare := by
  cases oa with
  | none =>
    cases ob with
    | none => exact ⟨rfl, rfl, fun _ _ _ _ e => by cases e⟩
    | some q => have := h.both; cases this
  | some p =>
    cases ob with
    | none => have := h.both; cases this
    | some q =>
      obtain ⟨b1, x⟩ := p
      obtain ⟨b2, y⟩ := q
      obtain ⟨h1, h2⟩ := took_vs (h.ta _ _ rfl).1 (h.tb _ _ rfl).1 (fun k => (src_rev N sf own hl k).symm)
      have hn : x.nd = y.nd := (h.j.na _ _ rfl).1.trans (h.j.nb _ _ rfl).1.symm
      have hv : x.vset = y.vset := by unfold Bl.vset; rw [h1]
      refine ⟨hv, ?_, fun _ _ _ _ e e' => by cases e; cases e'; exact h2⟩
      unfold wonO
      dsimp only
      rw [hv, hn]
/-- What Merge tells, of none too. -/
def TMergeO (w : World) (n : Int) : Option (Nat × Bl) → Ending → World → Prop
  | none => TVal w (.slice none 0 0)
  | some (_, x) => fun r w' => if Qu.majB x.vset x.nd = true then TMerge w x.bs x.tm n x.ls r w' else TVal w (.slice none 0 0) r w'
theorem bp_merge {w : World} {p : Value} {o : Option (Nat × Bl)} (h : BPt w p o) (hbs : ∀ b x, o = some (b, x) → x.bs ≤ 4611686018427387904) (n : Int) : Calls Try.prog 13 #[p, .int .i64 n] w (TMergeO w n o) := by
  cases o with
  | none => obtain rfl : p = .pointer none := h; exact merge_lost none w (won_nil w) n
  | some q =>
    obtain ⟨b, x⟩ := q
    obtain ⟨rfl, hB⟩ := h
    unfold TMergeO
    dsimp only
    cases hv : Qu.majB x.vset x.nd with
    | true => simp only [if_true]; exact merge_won hB (hbs _ _ rfl) n hv
    | false => simp only [Bool.false_eq_true, if_false]; exact merge_no hB n hv
/-- What two lists that were merged of the same are: the same. -/
theorem tmerge_same {w1 w2 wa wb : World} {base tm : Nat} {n : Int} {Ls Ls' : List Li} {r r' : Ending} (h : (flat Ls).map En.bare = (flat Ls').map En.bare) (ha : TMerge w1 base tm n Ls r wa) (hb : TMerge w2 base tm n Ls' r' wb) :
    ∃ A c es A' c' es' H, r = .returned (.slice A H c) ∧ r' = .returned (.slice A' H c') ∧ Ents wa A H c es ∧ Ents wb A' H c' es' ∧ ∀ (j : Nat) (e x : En), es[j]? = some e → es'[j]? = some x → SameE e x := by
  obtain ⟨A, c, es, rfl, he, hg, _⟩ := ha
  obtain ⟨A', c', es', rfl, he', hg', _⟩ := hb
  have hh : hadN (hasE Ls' base) 192 = hadN (hasE Ls base) 192 := by rw [hasE_bare h]
  rw [hh] at he' hg'
  refine ⟨A, c, es, A', c', es', _, rfl, by rw [hh], he, he', fun j e x h1 h2 => ?_⟩
  have hj : j < hadN (hasE Ls base) 192 := by have := (List.getElem?_eq_some_iff.1 h1).1; have := he.len; omega
  obtain ⟨A1, c1, g1⟩ := hg j hj
  obtain ⟨A2, c2, g2⟩ := hg' j hj
  rw [h1] at g1
  rw [h2] at g2
  cases g1
  cases g2
  rw [goes_bare h]
  exact same_put _ _ _ _ _
end Go.Proofs.Ytapfggpeodpflaa

namespace Go.Proofs.Ytapfggpeodpflaa
open Go.RowKit
set_option maxRecDepth 20000

def Mof (n : Int) (H : Nat) (es : List En) : Option (Nat × Bl) → Prop
  | none => H = 0
  | some (_, x) => if Qu.majB x.vset x.nd = true then H = hadN (hasE x.ls x.bs) 192 ∧ ∀ j, j < H → ∃ A' c', es[j]? = some ((goes x.bs x.tm n x.ls H j).put A' c') else H = 0
theorem merge_o {w : World} {p : Value} {o : Option (Nat × Bl)} (h : BPt w p o) (hbs : ∀ b x, o = some (b, x) → x.bs ≤ 4611686018427387904) (n : Int) : Calls Try.prog 13 #[p, .int .i64 n] w fun r w' => ∃ A H c es, r = .returned (.slice A H c) ∧ Ents w' A H c es ∧ Mof n H es o ∧ Below w.heap.size w w' := by
  refine (bp_merge h hbs n).mono fun r w' ht => ?_
  cases o with
  | none =>
    obtain ⟨rfl, hb⟩ := ht
    exact ⟨none, 0, 0, [], rfl, ⟨Rd.nil_, rfl, fun _ h => by cases h⟩, rfl, hb⟩
  | some q =>
    obtain ⟨b, x⟩ := q
    unfold TMergeO at ht
    unfold Mof
    dsimp only at ht ⊢
    cases hv : Qu.majB x.vset x.nd with
    | true =>
      rw [hv] at ht
      simp only [if_true] at ht ⊢
      obtain ⟨A, c, es, rfl, he, hg, hb⟩ := ht
      exact ⟨A, _, c, es, rfl, he, ⟨rfl, hg⟩, hb⟩
    | false =>
      rw [hv] at ht
      simp only [Bool.false_eq_true, if_false] at ht ⊢
      obtain ⟨rfl, hb⟩ := ht
      exact ⟨none, 0, 0, [], rfl, ⟨Rd.nil_, rfl, fun _ h => by cases h⟩, rfl, hb⟩
theorem mof_same {w0 w : World} {pa pb : Value} {N sf : Int} {own : List En} {l : List Vo} {tm bs : Nat} {oa ob : Option (Nat × Bl)} (h : OJ w0 w pa pb N sf own l l.reverse tm bs oa ob) (hl : l.Pairwise fun u v => u.nd ≠ v.nd) {n : Int} {H H' : Nat} {es es' : List En} {wa wb : World} {A A' : Option Addr} {c c' : Nat}
    (he : Ents wa A H c es) (he' : Ents wb A' H' c' es') (ha : Mof n H es oa) (hb : Mof n H' es' ob) : H = H' ∧ ∀ (j : Nat) (e x : En), es[j]? = some e → es'[j]? = some x → SameE e x := by
  obtain ⟨_, hw, hbare⟩ := oj_end h hl
  have nil0 : ∀ {w : World} {A : Option Addr} {c : Nat} {es : List En} (j : Nat) (e : En), Ents w A 0 c es → es[j]? = some e → False := fun j e he hj => by
    have := (List.getElem?_eq_some_iff.1 hj).1
    have := he.len
    omega
  cases oa with
  | none =>
    cases ob with
    | some q => have := h.both; cases this
    | none =>
      obtain rfl : H = 0 := ha
      obtain rfl : H' = 0 := hb
      exact ⟨rfl, fun j e x h1 _ => (nil0 j e he h1).elim⟩
  | some p =>
    cases ob with
    | none => have := h.both; cases this
    | some q =>
      obtain ⟨b1, x⟩ := p
      obtain ⟨b2, y⟩ := q
      have hb0 := hbare _ _ _ _ rfl rfl
      have e1 : x.bs = y.bs := (h.ta _ _ rfl).2.2.trans (h.tb _ _ rfl).2.2.symm
      have e2 : x.tm = y.tm := (h.ta _ _ rfl).2.1.trans (h.tb _ _ rfl).2.1.symm
      unfold wonO at hw
      dsimp only at hw
      unfold Mof at ha hb
      dsimp only at ha hb
      rw [← hw] at hb
      cases hv : Qu.majB x.vset x.nd with
      | false =>
        rw [hv] at ha hb
        simp only [Bool.false_eq_true, if_false] at ha hb
        subst ha hb
        exact ⟨rfl, fun j e x h1 _ => (nil0 j e he h1).elim⟩
      | true =>
        rw [hv] at ha hb
        simp only [if_true] at ha hb
        obtain ⟨h1, g1⟩ := ha
        obtain ⟨h2, g2⟩ := hb
        have hh : H = H' := by rw [h1, h2, hasE_bare hb0, e1]
        refine ⟨hh, fun j e z he1 he2 => ?_⟩
        have hj : j < H := by have := (List.getElem?_eq_some_iff.1 he1).1; have := he.len; omega
        obtain ⟨A1, c1, k1⟩ := g1 j hj
        obtain ⟨A2, c2, k2⟩ := g2 j (hh ▸ hj)
        rw [he1] at k1
        rw [he2] at k2
        cases k1
        cases k2
        rw [goes_bare hb0, e1, e2, hh]
        exact same_put _ _ _ _ _
theorem new_took {w : World} {A : Option Addr} {n c : Nat} {es : List En} (hl : Ents w A n c es) (hf : ∀ e ∈ es, e.bn ≤ 200) (hn1 : n ≤ 100000) (N k : Int) (tm bs : Nat) (ht : tm < 18446744073709551616) (hb : bs < 18446744073709551616) :
    Calls Try.prog 9 #[.int .i64 N, .int .i64 k, .int .u64 (tm : Int), .int .u64 (bs : Int), .slice A n c] w fun r w' => ∃ p o, r = .returned p ∧ BPt w' p o ∧ (∀ b x, o = some (b, x) → x.nd = nset N.toNat ∧ w.heap.size ≤ x.m ∧ (N ≤ 7 ∧ 0 ≤ N) ∧ Took x N k es [] ∧ x.tm = tm ∧ x.bs = bs) ∧ (o.isSome = true ↔ ¬ nosuch N k) ∧ Below w.heap.size w w' := by
  by_cases hno : nosuch N k
  · refine (new_no N k _ _ _ hno w).mono ?_
    rintro e w' ⟨rfl, hb⟩
    exact ⟨_, none, rfl, rfl, (fun _ _ h => by cases h), (by simp [hno]), hb⟩
  · have hno' := hno
    unfold nosuch at hno
    obtain ⟨M, rfl⟩ : ∃ M : Nat, N = (M : Int) := ⟨N.toNat, by omega⟩
    obtain ⟨j, rfl⟩ : ∃ j : Nat, k = (j : Int) := ⟨k.toNat, by omega⟩
    refine (new_ok hl hf hn1 M j tm bs (by omega) (by omega) ht hb).mono ?_
    rintro e w' ⟨b, m, l, rfl, hb, hm, hc, _, hB, hbl⟩
    have htk : Took ⟨nset M, tm, bs, m, fun y => if y = j then some l else none⟩ (M : Int) (j : Int) es [] := by
      intro y
      unfold Src
      dsimp only
      by_cases hy : y = j
      · rw [if_pos hy, if_pos (by omega)]
        show some (l.es.map En.bare) = some (es.map En.bare)
        rw [cop_bare hc]
      · rw [if_neg hy, if_neg (by omega)]
        split <;> rfl
    exact ⟨_, some (b, _), rfl, ⟨rfl, hB⟩, (fun _ _ h => by cases h; exact ⟨rfl, hm, ⟨by omega, by omega⟩, htk, rfl, rfl⟩), (by simp [hno']), hbl⟩
end Go.Proofs.Ytapfggpeodpflaa

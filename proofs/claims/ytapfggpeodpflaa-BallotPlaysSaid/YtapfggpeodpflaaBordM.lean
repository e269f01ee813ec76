/- What is merged does not turn on where looks lie. Who has voted, and what each has: whose vote came first counts. -/
import Derived.Test.YtapfggpeodpflaaBgrM
import Derived.Test.YtapfggpeodpflaaMsamesM
import Derived.Test.YtapfggpeodpflaaMalikeM
namespace Go.Proofs.Ytapfggpeodpflaa
open Go.RowKit
set_option maxRecDepth 20000

/-- An entry without where its looks lie. -/
def En.bare (e : En) : En := e.put none 0
theorem put_bare (e : En) (A : Option Addr) (c : Nat) : (e.put A c).bare = e.bare := rfl
theorem voids_bare (e x : En) : e.bare.voids x.bare = e.voids x := rfl
theorem cop_bare {es es' : List En} (h : Cop es es') : es'.map En.bare = es.map En.bare := by
  apply List.ext_getElem?
  intro j
  rw [List.getElem?_map, List.getElem?_map]
  rcases Nat.lt_or_ge j es.length with hj | hj
  · obtain ⟨A, c, h2⟩ := h.2 j es[j] (List.getElem?_eq_getElem hj)
    rw [h2, List.getElem?_eq_getElem hj]
    rfl
  · rw [List.getElem?_eq_none hj, List.getElem?_eq_none (by rw [h.1]; exact hj)]
theorem vd_bare (es : List En) (x : En) : vd (es.map En.bare) x.bare = vd es x := by
  unfold vd
  rw [List.any_map]
  rfl
theorem bstep_bare {V V' : En → Bool} (hV : ∀ x : En, V x = V' x.bare) (ix : Nat) (o : Option En) (x : En) : (bstep V ix o x).map En.bare = bstep V' ix (o.map En.bare) x.bare := by
  have hb : btr V ix o x = btr V' ix (o.map En.bare) x.bare := by
    unfold btr
    rw [hV]
    cases o <;> rfl
  unfold bstep
  rw [← hb]
  split <;> rfl
theorem fold_bare {V V' : En → Bool} (hV : ∀ x : En, V x = V' x.bare) (ix : Nat) : ∀ (l : List En) (o : Option En), (l.foldl (bstep V ix) o).map En.bare = (l.map En.bare).foldl (bstep V' ix) (o.map En.bare) := by
  intro l
  induction l with
  | nil => intro o; rfl
  | cons x l ih =>
    intro o
    rw [List.foldl_cons, List.map_cons, List.foldl_cons, ih, bstep_bare hV]
theorem bst_bare {Ls Ls' : List Li} (h : (flat Ls).map En.bare = (flat Ls').map En.bare) (ix : Nat) : (bst Ls ix).map En.bare = (bst Ls' ix).map En.bare := by
  unfold bst bestOf
  rw [fold_bare (V' := vd ((flat Ls).map En.bare)) (fun x => (vd_bare _ x).symm), fold_bare (V' := vd ((flat Ls').map En.bare)) (fun x => (vd_bare _ x).symm), h]
theorem hasE_bare {Ls Ls' : List Li} (h : (flat Ls).map En.bare = (flat Ls').map En.bare) (base : Nat) : hasE Ls base = hasE Ls' base := by
  funext j
  unfold hasE
  have := congrArg Option.isSome (bst_bare h (base + 1 + j))
  simpa using this
theorem srcE_bare {Ls Ls' : List Li} (h : (flat Ls).map En.bare = (flat Ls').map En.bare) (base j : Nat) : (srcE Ls base j).bare = (srcE Ls' base j).bare := by
  unfold srcE
  have := bst_bare h (base + 1 + j)
  generalize bst Ls (base + 1 + j) = o at *
  generalize bst Ls' (base + 1 + j) = o' at *
  cases o <;> cases o' <;> first | rfl | cases this | exact Option.some.inj this
theorem goes_bare {Ls Ls' : List Li} (h : (flat Ls).map En.bare = (flat Ls').map En.bare) (base term : Nat) (n : Int) (had j : Nat) : goes base term n Ls had j = goes base term n Ls' had j := by
  have hs := fun i => srcE_bare h base i
  have hj := hs j
  have hm : mades ((List.range j).map (srcE Ls base)) (mk n j) = mades ((List.range j).map (srcE Ls' base)) (mk n j) := by
    unfold mades
    have hl : ((List.range j).map (srcE Ls base)).map En.look = ((List.range j).map (srcE Ls' base)).map En.look := by
      rw [List.map_map, List.map_map]
      refine List.map_congr_left fun i _ => ?_
      show (srcE Ls base i).bare.look = (srcE Ls' base i).bare.look
      rw [hs i]
    rw [List.map_take, List.map_reverse, hl, ← List.map_reverse, ← List.map_take]
  unfold goes
  rw [hm]
  have e1 : (srcE Ls base j).kd = (srcE Ls' base j).kd := show (srcE Ls base j).bare.kd = (srcE Ls' base j).bare.kd by rw [hj]
  have e2 : (srcE Ls base j).cl = (srcE Ls' base j).cl := show (srcE Ls base j).bare.cl = (srcE Ls' base j).bare.cl by rw [hj]
  have e3 : (srcE Ls base j).rq = (srcE Ls' base j).rq := show (srcE Ls base j).bare.rq = (srcE Ls' base j).bare.rq by rw [hj]
  have e4 : (srcE Ls base j).fr = (srcE Ls' base j).fr := show (srcE Ls base j).bare.fr = (srcE Ls' base j).bare.fr by rw [hj]
  have e5 : (srcE Ls base j).ct = (srcE Ls' base j).ct := show (srcE Ls base j).bare.ct = (srcE Ls' base j).bare.ct by rw [hj]
  have e6 : (srcE Ls base j).da = (srcE Ls' base j).da := show (srcE Ls base j).bare.da = (srcE Ls' base j).bare.da by rw [hj]
  rw [e1, e2, e3, e4, e5, e6]
/-- Two that were made of the same are the same. -/
theorem same_put (g : En) (A A' : Option Addr) (c c' : Nat) : SameE (g.put A c) (g.put A' c') := by
  refine ⟨?_, rfl, rfl, rfl, rfl⟩
  unfold En.alike En.look En.put
  simp
end Go.Proofs.Ytapfggpeodpflaa

namespace Go.Proofs.Ytapfggpeodpflaa
open Go.RowKit
set_option maxRecDepth 20000

/-- What node k has, of N nodes, behind these votes. -/
def Src (N sf : Int) (own : List En) (vs : List Vo) (k : Nat) : Option (List En) :=
  if (k : Int) = sf then some own else if (k : Int) < N then (vs.find? fun v => decide (v.nd = (k : Int))).map fun v => v.l.es else none
/-- A ballot that has taken these votes. -/
def Took (x : Bl) (N sf : Int) (own : List En) (vs : List Vo) : Prop := ∀ k : Nat, (x.g k).map (fun l => l.es.map En.bare) = (Src N sf own vs k).map (List.map En.bare)
theorem src_more (N sf : Int) (own : List En) (vs : List Vo) (v : Vo) (k : Nat) : Src N sf own (vs ++ [v]) k = (Src N sf own vs k).or (if (k : Int) = v.nd ∧ (k : Int) < N then some v.l.es else none) := by
  unfold Src
  by_cases h1 : (k : Int) = sf
  · simp [h1]
  · by_cases h2 : (k : Int) < N
    · rw [if_neg h1, if_neg h1, if_pos h2, if_pos h2, List.find?_append]
      cases hf : vs.find? fun v => decide (v.nd = (k : Int)) with
      | some u => rfl
      | none =>
        by_cases h3 : v.nd = (k : Int)
        · simp [h3, h2]
        · have h4 : ¬ (k : Int) = v.nd := fun e => h3 e.symm
          simp [h3, h4]
    · simp [h1, h2]
/-- What a pointer's ballot has taken. -/
structure OJ (w0 w : World) (pa pb : Value) (N sf : Int) (own : List En) (va vb : List Vo) (tm bs : Nat) (oa ob : Option (Nat × Bl)) : Prop where
  j : MJ w0 w pa pb N oa ob
  n7 : ∀ b x, oa = some (b, x) → N ≤ 7 ∧ 0 ≤ N
  ta : ∀ b x, oa = some (b, x) → Took x N sf own va ∧ x.tm = tm ∧ x.bs = bs
  tb : ∀ b x, ob = some (b, x) → Took x N sf own vb ∧ x.tm = tm ∧ x.bs = bs
  both : oa.isSome = ob.isSome
theorem OJ.turn {w0 w : World} {pa pb : Value} {N sf : Int} {own : List En} {va vb : List Vo} {tm bs : Nat} {oa ob : Option (Nat × Bl)} (h : OJ w0 w pa pb N sf own va vb tm bs oa ob) : OJ w0 w pb pa N sf own vb va tm bs ob oa := by
  refine ⟨h.j.turn, fun b x e => ?_, h.tb, h.ta, h.both.symm⟩
  cases oa with
  | none => have := h.both; rw [e] at this; cases this
  | some p => exact h.n7 p.1 p.2 rfl
theorem OJ.below {w0 w w' : World} {pa pb : Value} {N sf : Int} {own : List En} {va vb : List Vo} {tm bs : Nat} {oa ob : Option (Nat × Bl)} (h : OJ w0 w pa pb N sf own va vb tm bs oa ob) (hb : Below w.heap.size w w') : OJ w0 w' pa pb N sf own va vb tm bs oa ob :=
  ⟨h.j.below hb, h.n7, h.ta, h.tb, h.both⟩
theorem took_same {x : Bl} {N sf : Int} {own : List En} {vs : List Vo} {v : Vo} (h : Took x N sf own vs) (hv : ∀ k : Nat, (k : Int) = v.nd → (k : Int) < N → (x.g k).isSome = true) : Took x N sf own (vs ++ [v]) := by
  intro k
  rw [src_more, h k]
  by_cases hk : (k : Int) = v.nd ∧ (k : Int) < N
  · have h1 := hv k hk.1 hk.2
    have h2 := h k
    cases hs : Src N sf own vs k with
    | some u => rfl
    | none =>
      rw [hs] at h2
      cases hx : x.g k with
      | none => rw [hx] at h1; cases h1
      | some l => rw [hx] at h2; cases h2
  · rw [if_neg hk]
    cases Src N sf own vs k <;> rfl
theorem took_vote {x : Bl} {N sf : Int} {own : List En} {vs : List Vo} {v : Vo} {j : Nat} {l : Li} (h : Took x N sf own vs) (hj : v.nd = (j : Int)) (hN : (j : Int) < N) (hx : x.g j = none) (hl : Cop v.l.es l.es) : Took (x.vote j l) N sf own (vs ++ [v]) := by
  intro k
  rw [src_more]
  unfold Bl.vote
  dsimp only
  by_cases hk : k = j
  · subst hk
    have h2 := h k
    rw [hx] at h2
    rw [if_pos rfl, if_pos ⟨hj.symm, hN⟩]
    cases hs : Src N sf own vs k with
    | some u => rw [hs] at h2; cases h2
    | none =>
      show some (l.es.map En.bare) = some (v.l.es.map En.bare)
      rw [cop_bare hl]
  · rw [if_neg hk, h k, if_neg (fun e => hk (by have := e.1; omega))]
    cases Src N sf own vs k <;> rfl
set_option maxHeartbeats 1000000 in
theorem oj_grant {w0 w : World} {pa pb : Value} {N sf : Int} {own : List En} {va vb : List Vo} {tm bs : Nat} {oa ob : Option (Nat × Bl)} (h : OJ w0 w pa pb N sf own va vb tm bs oa ob) (v : Vo) (hl : Ents w v.l.A v.l.n v.l.c v.l.es) (hf : ∀ e ∈ v.l.es, e.bn ≤ 200) (hn : v.l.n ≤ 100000) :
    Calls Try.prog 10 #[pa, .int .i64 v.nd, .slice v.l.A v.l.n v.l.c] w fun r w' => ∃ (r0 : Int) (oa' : Option (Nat × Bl)), r = .returned (.int .i64 r0) ∧ OJ w0 w' pa pb N sf own (va ++ [v]) vb tm bs oa' ob ∧ ∀ (k : Nat) (cs : Array Value) (t : TypeId), w.heap[k]? = some (.cells cs t (0, 0)) → w'.heap[k]? = some (.cells cs t (0, 0)) := by
  cases oa with
  | none =>
    obtain rfl : pa = .pointer none := h.j.a
    refine (grant_nil v.nd _ w).mono ?_
    rintro e w' ⟨rfl, hb⟩
    exact ⟨_, none, rfl, ⟨h.j.below hb, (fun _ _ e => by cases e), (fun _ _ e => by cases e), h.tb, h.both⟩, fun _ _ _ hk => row_below hk hb⟩
  | some p =>
    obtain ⟨b, x⟩ := p
    obtain ⟨rfl, hB⟩ := h.j.a
    obtain ⟨h1, h2⟩ := h.j.na b x rfl
    obtain ⟨ht, htm, hbs⟩ := h.ta b x rfl
    obtain ⟨h7, h0⟩ := h.n7 b x rfl
    have hN : ((N.toNat : Nat) : Int) = N := by omega
    have hin : ∀ n : Int, Qu.inB x.nd n = (decide (0 ≤ n) && decide (n < N)) := fun n => by rw [h1, nset_has _ (by omega), hN]
    cases hnn : Qu.inB x.nd v.nd with
    | false =>
      refine (grant_no hB v.nd _ hnn).mono ?_
      rintro e w' ⟨rfl, hb⟩
      have hsm : Took x N sf own (va ++ [v]) := took_same ht fun k hk hkN => by
        rw [hin, ← hk] at hnn
        simp at hnn
        omega
      exact ⟨2, some (b, x), rfl, ⟨h.j.below hb, h.n7, (fun _ _ e => by cases e; exact ⟨hsm, htm, hbs⟩), h.tb, h.both⟩, fun _ _ _ hk => row_below hk hb⟩
    | true =>
      obtain ⟨j, hj, hj7⟩ := inB_lt hB.nd hnn
      have hjN : (j : Int) < N := by
        rw [hin, hj] at hnn
        simp at hnn
        exact hnn
      cases hg : x.g j with
      | some l0 =>
        have hv : Qu.inB x.vset v.nd = true := by
          rw [hj, Qu.inB_nat _ _ (by omega), x.vset_bit j (by omega), hg]
          simp [hj7]
        refine (grant_there hB v.nd _ hnn hv).mono ?_
        rintro e w' ⟨rfl, hb⟩
        have hsm : Took x N sf own (va ++ [v]) := took_same ht fun k hk hkN => by
          obtain rfl : k = j := by omega
          rw [hg]
          rfl
        exact ⟨41, some (b, x), rfl, ⟨h.j.below hb, h.n7, (fun _ _ e => by cases e; exact ⟨hsm, htm, hbs⟩), h.tb, h.both⟩, fun _ _ _ hk => row_below hk hb⟩
      | none =>
        rw [hj]
        rw [hj] at hnn
        refine (grant_ok hB hj7 hnn hg hl hf hn).mono ?_
        rintro e w' ⟨rfl, hgr, l, hc, _, hB'⟩
        obtain ⟨o, ho, hno⟩ := hB.map.isMap
        refine ⟨0, some (b, x.vote j l), rfl, ⟨⟨h.j.bel.grown hgr h.j.bel.size (fun q e => by cases e; exact h2), ⟨rfl, hB'⟩, ?_, (fun _ _ e => by cases e; exact ⟨h1, h2⟩), h.j.nb, (fun _ _ _ _ e e' => by cases e; exact show x.m ≠ _ from h.j.ne b x _ _ rfl e')⟩, (fun _ _ _ => ⟨h7, h0⟩), (fun _ _ e => by cases e; exact ⟨took_vote ht hj hjN hg hc, htm, hbs⟩), h.tb, h.both⟩, fun q cs t hk => (hgr.block q (Array.getElem?_eq_some_iff.1 hk).1 (fun e => by cases e; rw [hk] at ho; cases ho; cases hno)).trans hk⟩
        have hb' := h.j.b
        have hne := h.j.ne
        cases ob with
        | none => exact hb'
        | some q => exact ⟨hb'.1, hb'.2.mapk ho hno hgr (hne _ _ _ _ rfl rfl).symm⟩
end Go.Proofs.Ytapfggpeodpflaa

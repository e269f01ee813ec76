/- A ballot or none, through a pointer: New, Grant, Won, Voters. -/
import Derived.Test.YtenloljcaolkfaaBlives
namespace Go.Proofs.Ytenloljcaolkfaa
open Go.RowKit
set_option maxRecDepth 20000

/-- A pointer: none, or to a ballot. -/
def BPt (w : World) (p : Value) : Option (Nat × Bl) → Prop
  | none => p = .pointer none
  | some (b, x) => p = .pointer (some ⟨b, 0, none⟩) ∧ BlAt w b x
def wonO : Option (Nat × Bl) → Bool
  | none => false
  | some (_, x) => Qu.majB x.vset x.nd
def votO : Option (Nat × Bl) → Nat
  | none => 0
  | some (_, x) => x.vset
theorem votO_lt (o : Option (Nat × Bl)) : votO o < 18446744073709551616 := by
  match o with
  | none => exact show 0 < _ by decide
  | some (_, x) => exact x.vset_lt
theorem BPt.below {w w' : World} {p : Value} {o : Option (Nat × Bl)} (h : BPt w p o) (hb : Below w.heap.size w w') : BPt w' p o := by
  match o, h with
  | none, h => exact h
  | some (_, x), h => exact ⟨h.1, h.2.below hb⟩
theorem bp_won {w : World} {p : Value} {o : Option (Nat × Bl)} (h : BPt w p o) : Calls Try.prog 14 #[p] w (TVal w (.bool (wonO o))) := by
  match o, h with
  | none, h => obtain rfl : p = .pointer none := h; exact won_nil w
  | some (_, x), h => obtain ⟨rfl, h1⟩ := h; exact won_any h1
theorem bp_vot {w : World} {p : Value} {o : Option (Nat × Bl)} (h : BPt w p o) : Calls Try.prog 12 #[p] w (TVal w (.int .u64 ((votO o : Nat) : Int))) := by
  match o, h with
  | none, h => obtain rfl : p = .pointer none := h; exact voters_nil w
  | some (_, x), h => obtain ⟨rfl, h1⟩ := h; exact voters_any h1
/-- What New tells, whatever it is handed. -/
def TNewO (w : World) (N : Int) (tm bs : Nat) (r : Ending) (w' : World) : Prop :=
  ∃ p o, r = .returned p ∧ BPt w' p o ∧ (∀ b x, o = some (b, x) → x.nd = nset N.toNat ∧ x.tm = tm ∧ x.bs = bs ∧ w.heap.size ≤ x.m) ∧ Below w.heap.size w w'
theorem new_any {w : World} {A : Option Addr} {n c : Nat} {es : List En} (hl : Ents w A n c es) (hf : ∀ e ∈ es, e.bn ≤ 200) (hn1 : n ≤ 100000) (N k : Int) (tm bs : Nat) (ht : tm < 18446744073709551616) (hb : bs < 18446744073709551616) :
    Calls Try.prog 9 #[.int .i64 N, .int .i64 k, .int .u64 (tm : Int), .int .u64 (bs : Int), .slice A n c] w (TNewO w N tm bs) := by
  by_cases hno : nosuch N k
  · refine (new_no N k _ _ _ hno w).mono ?_
    rintro e w' ⟨rfl, hb⟩
    exact ⟨_, none, rfl, rfl, (fun _ _ h => by cases h), hb⟩
  · unfold nosuch at hno
    obtain ⟨M, rfl⟩ : ∃ M : Nat, N = (M : Int) := ⟨N.toNat, by omega⟩
    obtain ⟨j, rfl⟩ : ∃ j : Nat, k = (j : Int) := ⟨k.toNat, by omega⟩
    refine (new_ok hl hf hn1 M j tm bs (by omega) (by omega) ht hb).mono ?_
    rintro e w' ⟨b, m, l, rfl, hb, hm, _, _, hB, hbl⟩
    exact ⟨_, some (b, _), rfl, ⟨rfl, hB⟩, (fun _ _ h => by cases h; exact ⟨rfl, rfl, rfl, hm⟩), hbl⟩
/-- Grant, whatever it is handed: the ballot's nodes and its map stay. -/
theorem grant_weak {w : World} {b : Nat} {x : Bl} (h : BlAt w b x) (n : Int) {A : Option Addr} {m c : Nat} {es : List En} (hl : Ents w A m c es) (hf : ∀ e ∈ es, e.bn ≤ 200) (hn1 : m ≤ 100000) :
    Calls Try.prog 10 #[.pointer (some ⟨b, 0, none⟩), .int .i64 n, .slice A m c] w fun r w' => ∃ (r0 : Int) (x' : Bl), r = .returned (.int .i64 r0) ∧ BlAt w' b x' ∧ x'.nd = x.nd ∧ x'.m = x.m ∧ w.grownBy w' (some x.m) := by
  cases hn : Qu.inB x.nd n with
  | false =>
    refine (grant_no h n _ hn).mono ?_
    rintro e w' ⟨rfl, hb⟩
    exact ⟨_, x, rfl, h.below hb, rfl, rfl, grown_none hb⟩
  | true =>
    cases hv : Qu.inB x.vset n with
    | true =>
      refine (grant_there h n _ hn hv).mono ?_
      rintro e w' ⟨rfl, hb⟩
      exact ⟨_, x, rfl, h.below hb, rfl, rfl, grown_none hb⟩
    | false =>
      obtain ⟨k, rfl, hk⟩ := inB_lt h.nd hn
      have hg : x.g k = none := by
        rw [Qu.inB_nat _ _ (by omega), x.vset_bit k (by omega)] at hv
        cases hx : x.g k with
        | none => rfl
        | some l => rw [hx] at hv; simp at hv; omega
      refine (grant_ok h hk hn hg hl hf hn1).mono ?_
      rintro e w' ⟨rfl, hgr, l, _, _, hB⟩
      exact ⟨_, _, rfl, hB, rfl, rfl, hgr⟩
/-- Two ballots of as many nodes, each with a map of its own. -/
structure MJ (w0 w : World) (pa pb : Value) (N : Int) (oa ob : Option (Nat × Bl)) : Prop where
  bel : Below w0.heap.size w0 w
  a : BPt w pa oa
  b : BPt w pb ob
  na : ∀ b x, oa = some (b, x) → x.nd = nset N.toNat ∧ w0.heap.size ≤ x.m
  nb : ∀ b x, ob = some (b, x) → x.nd = nset N.toNat ∧ w0.heap.size ≤ x.m
  ne : ∀ b x b' x', oa = some (b, x) → ob = some (b', x') → x.m ≠ x'.m
theorem MJ.turn {w0 w : World} {pa pb : Value} {N : Int} {oa ob : Option (Nat × Bl)} (h : MJ w0 w pa pb N oa ob) : MJ w0 w pb pa N ob oa :=
  ⟨h.bel, h.b, h.a, h.nb, h.na, fun _ _ _ _ h1 h2 e => h.ne _ _ _ _ h2 h1 e.symm⟩
theorem MJ.below {w0 w w' : World} {pa pb : Value} {N : Int} {oa ob : Option (Nat × Bl)} (h : MJ w0 w pa pb N oa ob) (hb : Below w.heap.size w w') : MJ w0 w' pa pb N oa ob :=
  ⟨h.bel.trans (hb.mono h.bel.size), h.a.below hb, h.b.below hb, h.na, h.nb, h.ne⟩
theorem mj_grant {w0 w : World} {pa pb : Value} {N : Int} {oa ob : Option (Nat × Bl)} (h : MJ w0 w pa pb N oa ob) (n : Int) :
    Calls Try.prog 10 #[pa, .int .i64 n, .slice none 0 0] w fun r w' => ∃ (r0 : Int) (oa' : Option (Nat × Bl)), r = .returned (.int .i64 r0) ∧ MJ w0 w' pa pb N oa' ob := by
  match oa, h with
  | none, h =>
    obtain rfl : pa = .pointer none := h.a
    refine (grant_nil n _ w).mono ?_
    rintro e w' ⟨rfl, hb⟩
    exact ⟨_, none, rfl, h.below hb⟩
  | some (b, x), h =>
    obtain ⟨rfl, hB⟩ := h.a
    refine (grant_weak hB n (es := []) ⟨Rd.nil_, rfl, fun _ h => by cases h⟩ (fun _ h => by cases h) (by decide)).mono ?_
    rintro e w' ⟨r0, x', rfl, hB', hnd, hm, hg⟩
    obtain ⟨h1, h2⟩ := h.na b x rfl
    obtain ⟨o, ho, hno⟩ := hB.map.isMap
    refine ⟨r0, some (b, x'), rfl, h.bel.grown hg h.bel.size (fun q e => by cases e; exact h2), ⟨rfl, hB'⟩, ?_, (fun _ _ e => by cases e; exact ⟨hnd.trans h1, by rw [hm]; exact h2⟩), h.nb, (fun _ _ _ _ e e' => by cases e; rw [hm]; exact h.ne _ _ _ _ rfl e')⟩
    have hb' := h.b
    match ob, hb', h.ne with
    | none, hb', _ => exact hb'
    | some (_, y), hb', hne => exact ⟨hb'.1, hb'.2.mapk ho hno hg (hne _ _ _ _ rfl rfl).symm⟩
theorem mj_meet {w0 w : World} {pa pb : Value} {N : Int} {oa ob : Option (Nat × Bl)} (h : MJ w0 w pa pb N oa ob) (ha : wonO oa = true) (hb : wonO ob = true) : votO oa &&& votO ob ≠ 0 := by
  cases oa with
  | none => exact absurd ha (by unfold wonO; decide)
  | some p =>
    cases ob with
    | none => exact absurd hb (by unfold wonO; decide)
    | some q =>
      obtain ⟨b1, x⟩ := p
      obtain ⟨b2, y⟩ := q
      have e1 := (h.na _ _ rfl).1
      have e2 := (h.nb _ _ rfl).1
      unfold wonO at ha hb
      dsimp only at ha hb
      rw [e1] at ha
      rw [e2] at hb
      clear h e1 e2
      generalize nset N.toNat = o at *
      unfold votO
      dsimp only
      generalize x.vset = X at *
      generalize y.vset = Y at *
      have := Qu.maj_meet X Y o ha hb
      intro hz
      rw [hz, Nat.zero_and] at this
      exact this rfl
end Go.Proofs.Ytenloljcaolkfaa

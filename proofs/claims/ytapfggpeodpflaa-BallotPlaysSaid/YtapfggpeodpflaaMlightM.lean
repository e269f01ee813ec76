/- A ballot or none, through a pointer: New, Grant, Won, Voters. Light of this layer, and its example. -/
import Derived.Test.YtapfggpeodpflaaBlivesM
import Derived.Test.YtapfggpeodpflaaMrmergeM
namespace Go.Proofs.Ytapfggpeodpflaa
open Go.RowKit
set_option maxRecDepth 20000

/-- A pointer: none, or to a ballot. -/
def BPt (w : World) (p : Value) : Option (Nat × Bl) → Prop
  | none => p = .pointer none
  | some (b, x) => p = .pointer (some ⟨b, 0, none⟩) ∧ BlAt w b x
def wonO : Option (Nat × Bl) → Bool
  | none => false
  | some (_, x) => Qu.majB x.vset x.nd
def votO : Option (Nat × Bl) → Nat
  | none => 0
  | some (_, x) => x.vset
theorem votO_lt (o : Option (Nat × Bl)) : votO o < 18446744073709551616 := by
  match o with
  | none => exact show 0 < _ by decide
  | some (_, x) => exact x.vset_lt
theorem BPt.below {w w' : World} {p : Value} {o : Option (Nat × Bl)} (h : BPt w p o) (hb : Below w.heap.size w w') : BPt w' p o := by
  match o, h with
  | none, h => exact h
  | some (_, x), h => exact ⟨h.1, h.2.below hb⟩
theorem bp_won {w : World} {p : Value} {o : Option (Nat × Bl)} (h : BPt w p o) : Calls Try.prog 14 #[p] w (TVal w (.bool (wonO o))) := by
  match o, h with
  | none, h => obtain rfl : p = .pointer none := h; exact won_nil w
  | some (_, x), h => obtain ⟨rfl, h1⟩ := h; exact won_any h1
theorem bp_vot {w : World} {p : Value} {o : Option (Nat × Bl)} (h : BPt w p o) : Calls Try.prog 12 #[p] w (TVal w (.int .u64 ((votO o : Nat) : Int))) := by
  match o, h with
  | none, h => obtain rfl : p = .pointer none := h; exact voters_nil w
  | some (_, x), h => obtain ⟨rfl, h1⟩ := h; exact voters_any h1
/-- What New tells, whatever it is handed. -/
def TNewO (w : World) (N : Int) (tm bs : Nat) (r : Ending) (w' : World) : Prop :=
  ∃ p o, r = .returned p ∧ BPt w' p o ∧ (∀ b x, o = some (b, x) → x.nd = nset N.toNat ∧ x.tm = tm ∧ x.bs = bs ∧ w.heap.size ≤ x.m) ∧ Below w.heap.size w w'
theorem new_any {w : World} {A : Option Addr} {n c : Nat} {es : List En} (hl : Ents w A n c es) (hf : ∀ e ∈ es, e.bn ≤ 200) (hn1 : n ≤ 100000) (N k : Int) (tm bs : Nat) (ht : tm < 18446744073709551616) (hb : bs < 18446744073709551616) :
    Calls Try.prog 9 #[.int .i64 N, .int .i64 k, .int .u64 (tm : Int), .int .u64 (bs : Int), .slice A n c] w (TNewO w N tm bs) := by
  by_cases hno : nosuch N k
  · refine (new_no N k _ _ _ hno w).mono ?_
    rintro e w' ⟨rfl, hb⟩
    exact ⟨_, none, rfl, rfl, (fun _ _ h => by cases h), hb⟩
  · unfold nosuch at hno
    obtain ⟨M, rfl⟩ : ∃ M : Nat, N = (M : Int) := ⟨N.toNat, by omega⟩
    obtain ⟨j, rfl⟩ : ∃ j : Nat, k = (j : Int) := ⟨k.toNat, by omega⟩
    refine (new_ok hl hf hn1 M j tm bs (by omega) (by omega) ht hb).mono ?_
    rintro e w' ⟨b, m, l, rfl, hb, hm, _, _, hB, hbl⟩
    exact ⟨_, some (b, _), rfl, ⟨rfl, hB⟩, (fun _ _ h => by cases h; exact ⟨rfl, rfl, rfl, hm⟩), hbl⟩
/-- Grant, whatever it is handed: the ballot's nodes and its map stay. -/
theorem grant_weak {w : World} {b : Nat} {x : Bl} (h : BlAt w b x) (n : Int) {A : Option Addr} {m c : Nat} {es : List En} (hl : Ents w A m c es) (hf : ∀ e ∈ es, e.bn ≤ 200) (hn1 : m ≤ 100000) :
    Calls Try.prog 10 #[.pointer (some ⟨b, 0, none⟩), .int .i64 n, .slice A m c] w fun r w' => ∃ (r0 : Int) (x' : Bl), r = .returned (.int .i64 r0) ∧ BlAt w' b x' ∧ x'.nd = x.nd ∧ x'.m = x.m ∧ w.grownBy w' (some x.m) := by
  cases hn : Qu.inB x.nd n with
  | false =>
    refine (grant_no h n _ hn).mono ?_
    rintro e w' ⟨rfl, hb⟩
    exact ⟨_, x, rfl, h.below hb, rfl, rfl, grown_none hb⟩
  | true =>
    cases hv : Qu.inB x.vset n with
    | true =>
      refine (grant_there h n _ hn hv).mono ?_
      rintro e w' ⟨rfl, hb⟩
      exact ⟨_, x, rfl, h.below hb, rfl, rfl, grown_none hb⟩
    | false =>
      obtain ⟨k, rfl, hk⟩ := inB_lt h.nd hn
      have hg : x.g k = none := by
        rw [Qu.inB_nat _ _ (by omega), x.vset_bit k (by omega)] at hv
        cases hx : x.g k with
        | none => rfl
        | some l => rw [hx] at hv; simp at hv; omega
      refine (grant_ok h hk hn hg hl hf hn1).mono ?_
      rintro e w' ⟨rfl, hgr, l, _, _, hB⟩
      exact ⟨_, _, rfl, hB, rfl, rfl, hgr⟩
/-- Two ballots of as many nodes, each with a map of its own. -/
structure MJ (w0 w : World) (pa pb : Value) (N : Int) (oa ob : Option (Nat × Bl)) : Prop where
  bel : Below w0.heap.size w0 w
  a : BPt w pa oa
  b : BPt w pb ob
  na : ∀ b x, oa = some (b, x) → x.nd = nset N.toNat ∧ w0.heap.size ≤ x.m
  nb : ∀ b x, ob = some (b, x) → x.nd = nset N.toNat ∧ w0.heap.size ≤ x.m
  ne : ∀ b x b' x', oa = some (b, x) → ob = some (b', x') → x.m ≠ x'.m
theorem MJ.turn {w0 w : World} {pa pb : Value} {N : Int} {oa ob : Option (Nat × Bl)} (h : MJ w0 w pa pb N oa ob) : MJ w0 w pb pa N ob oa :=
  ⟨h.bel, h.b, h.a, h.nb, h.na, fun _ _ _ _ h1 h2 e => h.ne _ _ _ _ h2 h1 e.symm⟩
theorem MJ.below {w0 w w' : World} {pa pb : Value} {N : Int} {oa ob : Option (Nat × Bl)} (h : MJ w0 w pa pb N oa ob) (hb : Below w.heap.size w w') : MJ w0 w' pa pb N oa ob :=
  ⟨h.bel.trans (hb.mono h.bel.size), h.a.below hb, h.b.below hb, h.na, h.nb, h.ne⟩
theorem mj_grant {w0 w : World} {pa pb : Value} {N : Int} {oa ob : Option (Nat × Bl)} (h : MJ w0 w pa pb N oa ob) (n : Int) :
    Calls Try.prog 10 #[pa, .int .i64 n, .slice none 0 0] w fun r w' => ∃ (r0 : Int) (oa' : Option (Nat × Bl)), r = .returned (.int .i64 r0) ∧ MJ w0 w' pa pb N oa' ob := by
  match oa, h with
  | none, h =>
    obtain rfl : pa = .pointer none := h.a
    refine (grant_nil n _ w).mono ?_
    rintro e w' ⟨rfl, hb⟩
    exact ⟨_, none, rfl, h.below hb⟩
  | some (b, x), h =>
    obtain ⟨rfl, hB⟩ := h.a
    refine (grant_weak hB n (es := []) ⟨Rd.nil_, rfl, fun _ h => by cases h⟩ (fun _ h => by cases h) (by decide)).mono ?_
    rintro e w' ⟨r0, x', rfl, hB', hnd, hm, hg⟩
    obtain ⟨h1, h2⟩ := h.na b x rfl
    obtain ⟨o, ho, hno⟩ := hB.map.isMap
    refine ⟨r0, some (b, x'), rfl, h.bel.grown hg h.bel.size (fun q e => by cases e; exact h2), ⟨rfl, hB'⟩, ?_, (fun _ _ e => by cases e; exact ⟨hnd.trans h1, by rw [hm]; exact h2⟩), h.nb, (fun _ _ _ _ e e' => by cases e; rw [hm]; exact h.ne _ _ _ _ rfl e')⟩
    have hb' := h.b
    match ob, hb', h.ne with
    | none, hb', _ => exact hb'
    | some (_, y), hb', hne => exact ⟨hb'.1, hb'.2.mapk ho hno hg (hne _ _ _ _ rfl rfl).symm⟩
theorem mj_meet {w0 w : World} {pa pb : Value} {N : Int} {oa ob : Option (Nat × Bl)} (h : MJ w0 w pa pb N oa ob) (ha : wonO oa = true) (hb : wonO ob = true) : votO oa &&& votO ob ≠ 0 := by
  cases oa with
  | none => exact absurd ha (by unfold wonO; decide)
  | some p =>
    cases ob with
    | none => exact absurd hb (by unfold wonO; decide)
    | some q =>
      obtain ⟨b1, x⟩ := p
      obtain ⟨b2, y⟩ := q
      have e1 := (h.na _ _ rfl).1
      have e2 := (h.nb _ _ rfl).1
      unfold wonO at ha hb
      dsimp only at ha hb
      rw [e1] at ha
      rw [e2] at hb
      clear h e1 e2
      generalize nset N.toNat = o at *
      unfold votO
      dsimp only
      generalize x.vset = X at *
      generalize y.vset = Y at *
      have := Qu.maj_meet X Y o ha hb
      intro hz
      rw [hz, Nat.zero_and] at this
      exact this rfl
end Go.Proofs.Ytapfggpeodpflaa

namespace Go.Proofs.Ytapfggpeodpflaa
open Go.RowKit
set_option maxRecDepth 20000

structure Fit (base : Nat) (Ls : List Li) : Prop where
  base : base ≤ 4611686018427387904
  len : Ls.length ≤ 7
  each : ∀ l ∈ Ls, l.es.length ≤ 20 ∧ Fitl l.es
  all : (flat Ls).length ≤ 40
theorem Fit.bn {base : Nat} {Ls : List Li} (h : Fit base Ls) : ∀ e ∈ flat Ls, e.bn ≤ 200 := fun e he => by
  unfold flat at he
  obtain ⟨l, hl, he⟩ := List.mem_flatMap.1 he
  exact ((h.each l hl).2.2 e he).2
set_option maxHeartbeats 4000000 in
theorem light23 {w : World} {A : Option Addr} {n c : Nat} {Ls : List Li} (h : Slc Li.lay w A n c Ls) (base : Nat) (hb : base < 18446744073709551616) :
    Calls Try.prog 19 #[.int .u64 (base : Int), .slice A n c] w (LAns w (Fit base Ls)) := by
  have hcap := h.rd.2.1
  have hnc := h.rd.1
  have hnm : (n : Int) ≤ 9223372036854775807 := by unfold maxLen at hcap; omega
  have HH := Lib.hid h
  have hbi : (base : Int) ≤ 18446744073709551615 := by omega
  clear h hcap hnc hb
  go_enter Try.func19, Try.ntmps19
  go_wp2
  go_loopw [5, 7, 10] (fun nv _ ir wr => ∃ (i : Nat), i ≤ n ∧ ir = .int .i64 (i : Int) ∧ nv = .int .i64 (((flat (Ls.take i)).length : Nat) : Int) ∧ (flat (Ls.take i)).length ≤ 40 ∧ Hid (∀ j l, j < i → Ls[j]? = some l → l.es.length ≤ 20 ∧ Fitl l.es) ∧ Hid (Below w.heap.size w wr)) (fun _ _ ir _ => n - (intOf ir).toNat)
  case atStart => exact ⟨0, Nat.zero_le _, rfl, rfl, Nat.zero_le _, Lib.hid (fun j o hj => absurd hj (Nat.not_lt_zero _)), Lib.hid (Below.refl _ _)⟩
  case round =>
    obtain ⟨i, hi, rfl, rfl, h40, HA, HB⟩ := hrel
    by_cases hlt : i < n
    · obtain ⟨p0, hp⟩ : ∃ p0, Ls[i]? = some p0 := ⟨_, List.getElem?_eq_getElem (by have := HH.out.len; omega)⟩
      obtain ⟨b, o, rfl, hbb, hcc⟩ := HH.out.at_ (by omega)
      have hrd : Ents w p0.A p0.n p0.c p0.es := HH.out.reads p0 (List.mem_of_getElem? hp)
      have k0 : wr.cell? ⟨b, o + i, none⟩ = some (.slice p0.A p0.n p0.c) := (HB.out.cell (p := ⟨b, o + i, none⟩) hbb).trans (by have := hcc i p0 hp 0 (.slice p0.A p0.n p0.c) rfl; rwa [Nat.mul_one, Nat.add_zero] at this)
      have HL10 := Lib.hid (light10 (hrd.below HB.out))
      have hsn : (flat (Ls.take (i + 1))).length = (flat (Ls.take i)).length + p0.n := by rw [flat_snoc Ls i p0 hp, List.length_append, hrd.len]
      have HN := Lib.hid hsn
      have HP := Lib.hid hp
      have HPL := Lib.hid hrd.len
      have hlti : (i : Int) < (n : Int) := by omega
      have hin : (i : Int) ≤ 9223372036854775806 := by omega
      clear hcc hp hrd hsn
      obtain ⟨A1, n1, c1, es1⟩ := p0
      dsimp only at *
      generalize (flat (Ls.take i)).length = t at *
      have ht : (t : Int) ≤ 40 := by omega
      by_cases h20 : n1 ≤ 20
      · have g1 : ¬ 20 < n1 := by omega
        have g3 : (n1 : Int) ≤ 20 := by omega
        by_cases hs : t + n1 ≤ 40
        · have g2 : ¬ (40 : Int) < (t : Int) + (n1 : Int) := by omega
          go_wp2_with (first
            | (go_at_call 32; refine HL10.out.mono ?_; rintro e w1 ⟨b1, rfl, hf1, hb1⟩
               have HF1 := Lib.hid hf1
               have HB1 := Lib.hid (HB.out.trans (hb1.mono HB.out.size))
               clear hf1 hb1
               cases b1)
            | fail)
          · go_ret
            exact ⟨_, rfl, (fun h => by cases h), HB1.out⟩
          · go_roundw
            case rel => exact ⟨i + 1, by omega, by go_num, by rw [HN.out]; go_num, by rw [HN.out]; exact hs, Lib.hid (fun j o hj ho => by
              rcases Nat.lt_or_ge j i with h1 | h1
              · exact HA.out j o h1 ho
              · obtain rfl : j = i := by omega
                rw [HP.out] at ho
                cases ho
                exact ⟨by show es1.length ≤ 20; rw [HPL.out]; exact h20, HF1.out trivial⟩), HB1⟩
            case measure => simp [intOf]; omega
        · have g2 : (40 : Int) < (t : Int) + (n1 : Int) := by omega
          go_wp2
          go_ret
          exact ⟨_, rfl, (fun h => by cases h), HB.out⟩
      · have g1 : 20 < n1 := by omega
        go_wp2
        go_ret
        exact ⟨_, rfl, (fun h => by cases h), HB.out⟩
    · obtain rfl : i = n := by omega
      rw [flat_all Ls i (by have := HH.out.len; omega)] at h40
      have hall : ∀ l ∈ Ls, l.es.length ≤ 20 ∧ Fitl l.es := fun l hl => by
        obtain ⟨j, hj⟩ := List.getElem?_of_mem hl
        exact HA.out j l (by have h1 := (List.getElem?_eq_some_iff.1 hj).1; have := HH.out.len; omega) hj
      have HALL := Lib.hid hall
      have H40 := Lib.hid h40
      clear hall h40
      generalize (flat (Ls.take i)).length = t at *
      by_cases h7 : i ≤ 7
      · by_cases h62 : base ≤ 4611686018427387904
        · go_wp2
          go_ret
          exact ⟨_, rfl, fun _ => ⟨h62, by have := HH.out.len; omega, HALL.out, H40.out⟩, HB.out⟩
        · have q2 : decide (base ≤ 4611686018427387904) = false := by simpa using h62
          go_wp2
          go_ret
          exact ⟨_, rfl, (fun h => by first | omega | (simp at h; done) | (simp at h; omega)), HB.out⟩
      · have q1 : decide (i ≤ 7) = false := by simpa using h7
        go_wp2
        go_ret
        exact ⟨_, rfl, (fun h => by first | (simp at h; done) | (simp at h; omega)), HB.out⟩

end Go.Proofs.Ytapfggpeodpflaa

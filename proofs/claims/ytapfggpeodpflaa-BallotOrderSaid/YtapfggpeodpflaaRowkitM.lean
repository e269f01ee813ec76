/- Sets of nodes as numbers: who is in them, how many, majorities. What the arguments of a law are, read as data: opened once for each kind. -/
import Derived.Test.YtapfggpeodpflaaPopM
import Derived.Test.YtapfggpeodpflaaSegsM
import Derived.Lib.SmallJoins
import Derived.Deep.Slices
namespace Go.Proofs.Ytapfggpeodpflaa.Qu

/-- Who is in a set. -/
def inB (s : Nat) (n : Int) : Bool := decide (0 ≤ n) && (decide (n < 64) && s.testBit n.toNat)
theorem inB_nat (s i : Nat) (h : i < 64) : inB s (i : Int) = s.testBit i := by
  unfold inB
  have h1 : (0 : Int) ≤ (i : Int) := by omega
  have h2 : (i : Int) < 64 := by omega
  simp [h2]
/-- A set with a node more. -/
def with1 (s : Nat) (n : Int) : Nat := if 0 ≤ n ∧ n < 64 then s ||| 2 ^ n.toNat else s
def withN (s : Nat) (l : List Int) : Nat := l.foldl with1 s
theorem pow_lt64 {k : Nat} (h : k < 64) : 2 ^ k < 18446744073709551616 := Nat.lt_of_le_of_lt (Nat.pow_le_pow_right (n := 2) (by decide) (show k ≤ 63 by omega)) (by decide)
theorem or_lt64 {a b : Nat} (ha : a < 18446744073709551616) (hb : b < 18446744073709551616) : a ||| b < 18446744073709551616 := Nat.or_lt_two_pow (n := 64) ha hb
theorem and_lt64 {a : Nat} (b : Nat) (ha : a < 18446744073709551616) : a &&& b < 18446744073709551616 := Nat.lt_of_le_of_lt Nat.and_le_left ha
theorem with1_lt {s : Nat} (n : Int) (h : s < 18446744073709551616) : with1 s n < 18446744073709551616 := by
  unfold with1
  split
  · exact or_lt64 h (pow_lt64 (by omega))
  · exact h
theorem withN_lt {s : Nat} (l : List Int) (h : s < 18446744073709551616) : withN s l < 18446744073709551616 := by
  induction l generalizing s with
  | nil => exact h
  | cons n l ih => exact ih (with1_lt n h)
theorem with1_bit (s : Nat) (n : Int) (i : Nat) (h : i < 64) : (with1 s n).testBit i = (s.testBit i || decide (n = (i : Int))) := by
  unfold with1
  split
  · rw [Nat.testBit_or, Nat.testBit_two_pow]
    congr 1
    rw [decide_eq_decide]
    omega
  · have : ¬ n = (i : Int) := by omega
    simp [this]
theorem withN_bit (s : Nat) (l : List Int) (i : Nat) (h : i < 64) : (withN s l).testBit i = (s.testBit i || l.any fun n => decide (n = (i : Int))) := by
  induction l generalizing s with
  | nil => simp [withN]
  | cons n l ih =>
    show (withN (with1 s n) l).testBit i = _
    rw [ih, with1_bit s n i h, List.any_cons, Bool.or_assoc]
/-- The nodes of a set. -/
def memb (s : Nat) : List Nat := (List.range 64).filter s.testBit
theorem memb_lt {s i : Nat} (h : i ∈ memb s) : i < 64 := List.mem_range.1 (List.mem_filter.1 h).1
theorem memb_len (s : Nat) : (memb s).length = pop 64 s := by
  rw [pop_count, List.countP_eq_length_filter]; rfl
theorem pop_and (a b : Nat) : pop 64 (a &&& b) = (memb b).countP a.testBit := by
  rw [pop_count]
  unfold memb
  rw [List.countP_filter]
  apply List.countP_congr
  intro i _
  rw [Nat.testBit_and]
/-- Has a set more than half of another one's nodes? -/
def majB (a b : Nat) : Bool := decide (pop 64 b < 2 * pop 64 (a &&& b))
theorem pop64_le (x : Nat) : pop 64 x ≤ 64 := pop_le 64 x
theorem count_or (l : List Nat) (p q r : Nat → Bool) (h : ∀ i ∈ l, (p i = true → r i = true) ∧ (q i = true → r i = true) ∧ ¬ (p i = true ∧ q i = true)) : l.countP p + l.countP q ≤ l.countP r := by
  induction l with
  | nil => simp
  | cons i l ih =>
    have h0 := h i List.mem_cons_self
    have ih := ih fun j hj => h j (List.mem_cons_of_mem _ hj)
    rw [List.countP_cons, List.countP_cons, List.countP_cons]
    obtain ⟨h1, h2, h3⟩ := h0
    cases hp : p i <;> cases hq : q i <;> cases hr : r i <;> simp_all <;> omega
theorem pop_disjoint (a b o m : Nat) (hom : ∀ i, i < 64 → o.testBit i = true → m.testBit i = true) (h : a &&& b &&& m = 0) : pop 64 (a &&& o) + pop 64 (b &&& m) ≤ pop 64 m := by
  rw [pop_count, pop_count, pop_count]
  refine count_or _ _ _ _ fun i hi => ?_
  have hi := List.mem_range.1 hi
  have hz : (a &&& b &&& m).testBit i = false := by rw [h]; exact Nat.zero_testBit i
  rw [Nat.testBit_and, Nat.testBit_and] at hz
  rw [Nat.testBit_and, Nat.testBit_and]
  have := hom i hi
  refine ⟨?_, ?_, ?_⟩
  · intro e; simp at e; exact this e.2
  · intro e; simp at e; exact e.2
  · rintro ⟨e1, e2⟩
    simp at e1 e2
    rw [e1.1, e2.1, e2.2] at hz
    cases hz
theorem maj_meet (a b o : Nat) (h1 : majB a o = true) (h2 : majB b o = true) : a &&& b &&& o ≠ 0 := by
  intro h
  have := pop_disjoint a b o o (fun _ _ h => h) h
  unfold majB at h1 h2
  simp at h1 h2
  omega
theorem count_more (l : List Nat) (hl : l.Nodup) (s : Nat → Bool) (k : Nat) : l.countP (fun i => s i || decide (k = i)) ≤ l.countP s + 1 := by
  induction l with
  | nil => simp
  | cons i l ih =>
    rw [List.countP_cons, List.countP_cons]
    by_cases hk : k = i
    · have hn : l.countP (fun i => s i || decide (k = i)) = l.countP s := by
        apply List.countP_congr
        intro j hj
        have : ¬ k = j := by rintro rfl; subst hk; exact (List.nodup_cons.1 hl).1 hj
        simp [this]
      rw [hn]
      split <;> split <;> omega
    · have := ih (List.nodup_cons.1 hl).2
      simp only [hk, decide_false, Bool.or_false]
      omega
theorem pop_with1 (s : Nat) (n : Int) : pop 64 (with1 s n) ≤ pop 64 s + 1 := by
  by_cases h : 0 ≤ n ∧ n < 64
  · rw [pop_count, pop_count]
    have e : (List.range 64).countP (with1 s n).testBit = (List.range 64).countP (fun i => s.testBit i || decide (n.toNat = i)) := by
      apply List.countP_congr
      intro i hi
      have hi := List.mem_range.1 hi
      rw [with1_bit s n i hi]
      have : decide (n = (i : Int)) = decide (n.toNat = i) := by rw [decide_eq_decide]; omega
      rw [this]
    rw [e]
    exact count_more _ List.nodup_range _ _
  · unfold with1
    rw [if_neg h]
    omega
theorem maj_more (a b o : Nat) (n : Int) (h1 : majB a o = true) (h2 : majB b (with1 o n) = true) : a &&& b &&& (with1 o n) ≠ 0 := by
  intro h
  have := pop_disjoint a b o (with1 o n) (fun i hi e => by rw [with1_bit o n i hi, e]; rfl) h
  have := pop_with1 o n
  unfold majB at h1 h2
  simp at h1 h2
  omega
/-- What the reference counts. -/
theorem ref_maj (a b : Nat) : decide ((memb b).length < 2 * (memb b).countP a.testBit) = majB a b := by
  unfold majB
  rw [memb_len, pop_and]
/-- Of bytes. -/
def cnt (l : List UInt8) (x : Nat) : Nat := l.countP fun y => y.toNat == x
theorem count_lt (l : List UInt8) (k : Nat) : (l.countP fun y => decide (y.toNat < k + 1)) = (l.countP fun y => decide (y.toNat < k)) + cnt l k := by
  unfold cnt
  induction l with
  | nil => rfl
  | cons y l ih =>
    rw [List.countP_cons, List.countP_cons, List.countP_cons, ih]
    by_cases h1 : y.toNat < k
    · have h2 : (y.toNat == k) = false := by simp; omega
      have h3 : y.toNat < k + 1 := by omega
      simp [h1, h2, h3]
      omega
    · by_cases h2 : y.toNat = k
      · have h3 : y.toNat < k + 1 := by omega
        simp [h2]
        omega
      · have h3 : ¬ y.toNat < k + 1 := by omega
        have h4 : (y.toNat == k) = false := by simpa using h2
        simp [h1, h3, h4]
theorem count_256 (l : List UInt8) : (l.countP fun y => decide (y.toNat < 256)) = l.length := by
  rw [List.countP_eq_length]
  intro y _
  have := y.toNat_lt
  simp
  omega
end Go.Proofs.Ytapfggpeodpflaa.Qu

namespace Go.Proofs.Ytapfggpeodpflaa
open Go.ChangeShapes Go.WideShapes Go.ChangeAt Go.RowKit
open Go.ChangeMaps (open_string shut_string)
open Go.Joins (open_agg2)
open Go.Deep (oneCellFields open_slice hone_of)

theorem own : ownKnob Try.prog.godebug = none := by kernel_rfl
theorem laidOut : laidOutB Try.prog = true := by kernel_rfl

section
variable {H : Type} {enc : TypeId × Value → H} {P : Program} {W : World} {r : Reach} {b0 : Nat} {t e : TypeId} {v : Value} {d : DataW H} {p : List MemPlace}

theorem dec_nums {k : IntKind} (ht : P.underlying t = some (.slice e)) (he : P.underlying e = some (.int k)) (hc : P.cellsOf e = 1) (hok : Value.okWide P W r b0 t v) (h : DataW.Trod enc P W 0 (fun _ => true) true t v d p) :
    ∃ (A : Option Addr) (n c : Nat) (zs : List Int), v = .slice A n c ∧ Rd W W.heap.size 1 A n c (zs.map (Value.int k)) ∧ ∀ z ∈ zs, (Lit.int k z).wf = true := by
  obtain ⟨A, n, c, rfl⟩ := okWide_slice ht hok
  obtain ⟨fuel, hf⟩ := h
  rcases open_ints ht he hc hf with ⟨hcs, _⟩ | ⟨x, l, c', zs, hcs, _, hl, hm, hz, _, hcell, hwz⟩
  · simp [Value.cells] at hcs
    obtain ⟨rfl, rfl, rfl⟩ := hcs
    exact ⟨_, _, _, [], rfl, Rd.nil_, fun _ hx => by cases hx⟩
  · simp [Value.cells] at hcs
    obtain ⟨rfl, rfl, rfl⟩ := hcs
    simp only [if_true] at hz
    refine ⟨_, _, _, zs.take n, rfl, ⟨hl, hm, by simp; omega, fun hn => ?_⟩, fun z hx => hwz z (List.mem_of_mem_take hx)⟩
    obtain ⟨b, off, spot⟩ := x
    have hc0 := hcell 0 (by omega)
    have hspot : spot = none := by simpa [Addr.add] using World.cell?_spot hc0
    subst hspot
    refine ⟨b, off, rfl, ?_, fun j u hu => ?_⟩
    · have := World.block_lt_of_cell? W _ hc0
      simpa [addOff] using this
    · have hj : j < (zs.take n).length := by
        have := (List.getElem?_eq_some_iff.1 hu).1
        simpa using this
      have hj' : j < n ∧ j < zs.length := by rw [List.length_take] at hj; omega
      rw [← addOff, hcell j hj'.2]
      simp only [List.getElem?_map, List.getElem?_take, if_pos hj'.1, List.getElem?_eq_getElem hj'.2, Option.map_some, Option.some.injEq] at hu
      subst hu
      simp [List.getD, hj'.2]

theorem dec_bytes (ht : P.underlying t = some (.slice e)) (he : P.underlying e = some (.int .u8)) (hc : P.cellsOf e = 1) (hok : Value.okWide P W r b0 t v) (h : DataW.Trod enc P W 0 (fun _ => true) true t v d p) :
    ∃ (A : Option Addr) (n c : Nat) (l : List UInt8), v = .slice A n c ∧ Rd W W.heap.size 1 A n c (u8s l) := by
  obtain ⟨A, n, c, zs, rfl, hr, hw⟩ := dec_nums ht he hc hok h
  refine ⟨A, n, c, zs.map (fun z => UInt8.ofNat z.toNat), rfl, ?_⟩
  have : u8s (zs.map (fun z => UInt8.ofNat z.toNat)) = zs.map (Value.int .u8) := by
    simp only [u8s, List.map_map]
    refine List.map_congr_left fun z hz => ?_
    have h1 := hw z hz
    simp only [Lit.wf] at h1
    simp only [Function.comp, u8, UInt8.toNat_ofNat']
    refine congrArg _ ?_
    simp [IntKind.min, IntKind.max, IntKind.signed, IntKind.bits] at h1
    omega
  rw [this]
  exact hr

theorem dec_u64s (ht : P.underlying t = some (.slice e)) (he : P.underlying e = some (.int .u64)) (hc : P.cellsOf e = 1) (hok : Value.okWide P W r b0 t v) (h : DataW.Trod enc P W 0 (fun _ => true) true t v d p) :
    ∃ (A : Option Addr) (n c : Nat) (ns : List Nat), v = .slice A n c ∧ Rd W W.heap.size 1 A n c (u64s ns) ∧ Hid (∀ x ∈ ns, x < 18446744073709551616) := by
  obtain ⟨A, n, c, zs, rfl, hr, hw⟩ := dec_nums ht he hc hok h
  have hb : ∀ z ∈ zs, 0 ≤ z ∧ z < 18446744073709551616 := by
    intro z hz
    have h1 := hw z hz
    simp [Lit.wf, IntKind.min, IntKind.max, IntKind.signed, IntKind.bits] at h1
    omega
  refine ⟨A, n, c, zs.map Int.toNat, rfl, ?_, Lib.hid ?_⟩
  · have : u64s (zs.map Int.toNat) = zs.map (Value.int .u64) := by
      simp only [u64s, List.map_map]
      refine List.map_congr_left fun z hz => ?_
      have := hb z hz
      simp only [Function.comp]
      refine congrArg _ ?_
      omega
    rw [this]
    exact hr
  · intro x hx
    obtain ⟨z, hz, rfl⟩ := List.mem_map.1 hx
    have := hb z hz
    omega

theorem dec_string (ht : P.underlying t = some .string) (hok : Value.okWide P W r b0 t v) (h : DataW.Trod enc P W 0 (fun _ => true) true t v d p) : ∃ l, v = .string (str l) ∧ l.length ≤ maxLen := by
  obtain ⟨s, rfl, _, _, hs⟩ := open_string ht hok h
  exact ⟨s.data.toList, by simp [str], by rw [Array.length_toList]; exact hs⟩

theorem dec_int {k : IntKind} (ht : P.underlying t = some (.int k)) (hok : Value.okWide P W r b0 t v) (h : DataW.Trod enc P W 0 (fun _ => true) true t v d p) : ∃ n, v = .int k n ∧ (Lit.int k n).wf = true := by
  obtain ⟨n, rfl, _, _, hw⟩ := open_int ht hok h
  exact ⟨n, rfl, hw⟩

theorem dec_ints2 {f0 f1 : Field} {k0 k1 : IntKind} (hs : P.underlying t = some (.struct #[f0, f1])) (hone : oneCellFields P #[f0, f1] = true) (hC : P.cellsOf t = 2) (h0 : P.underlying f0.type = some (.int k0)) (h1 : P.underlying f1.type = some (.int k1))
    (hok : Value.okWide P W r b0 t v) (h : DataW.Trod enc P W 0 (fun _ => true) true t v d p) : ∃ a b, v = .agg #[.int k0 a, .int k1 b] ∧ (Lit.int k0 a).wf = true ∧ (Lit.int k1 b).wf = true := by
  obtain ⟨v0, v1, y0, y1, n, rfl, _, _, g0, g1⟩ := open_agg2 hs hone hC hok h
  obtain ⟨a, ha, _, hwa⟩ := DataW.trod_int h0 g0
  obtain ⟨b, hb, _, hwb⟩ := DataW.trod_int h1 g1
  cases ha
  cases hb
  exact ⟨a, b, rfl, hwa, hwb⟩

/-- The cells of pairs of ints. -/
def pairs (ps : List (Int × Int)) : List Value := ps.flatMap fun p => [.int .i64 p.1, .int .i64 p.2]
theorem pairs_len (ps : List (Int × Int)) : (pairs ps).length = ps.length * 2 := by
  induction ps with
  | nil => rfl
  | cons p ps ih => simp only [pairs, List.flatMap_cons, List.length_append, List.length_cons, List.length_nil] at ih ⊢; omega
theorem pairs_get (ps : List (Int × Int)) (i : Nat) (p : Int × Int) (h : ps[i]? = some p) : (pairs ps)[i * 2]? = some (.int .i64 p.1) ∧ (pairs ps)[i * 2 + 1]? = some (.int .i64 p.2) := by
  induction ps generalizing i with
  | nil => cases h
  | cons q ps ih =>
    cases i with
    | zero =>
      simp only [List.getElem?_cons_zero, Option.some.injEq] at h
      subst h
      exact ⟨rfl, rfl⟩
    | succ i =>
      have := ih i (by simpa using h)
      have e : pairs (q :: ps) = .int .i64 q.1 :: .int .i64 q.2 :: pairs ps := rfl
      rw [e, show (i + 1) * 2 = i * 2 + 1 + 1 from by omega]
      exact this

theorem dec_pairs {f0 f1 : Field} (ht : P.underlying t = some (.slice e)) (hs : P.underlying e = some (.struct #[f0, f1])) (hone : oneCellFields P #[f0, f1] = true) (hC : P.cellsOf e = 2) (h0 : P.underlying f0.type = some (.int .i64)) (h1 : P.underlying f1.type = some (.int .i64))
    (hok : Value.okWide P W r b0 t v) (h : DataW.Trod enc P W 0 (fun _ => true) true t v d p) :
    ∃ (A : Option Addr) (n c : Nat) (ps : List (Int × Int)), v = .slice A n c ∧ Rd W W.heap.size 2 A n c (pairs ps) ∧ ps.length = n := by
  obtain ⟨A, n, c, rfl⟩ := okWide_slice ht hok
  obtain ⟨fuel, hf⟩ := h
  rcases open_slice ht hf with ⟨hcs, _⟩ | ⟨x, l, c', m, k, D, Pl, hcs, _, hl, hm, hmm, _, hi⟩
  · simp [Value.cells] at hcs
    obtain ⟨rfl, rfl, rfl⟩ := hcs
    exact ⟨_, _, _, [], rfl, Rd.nil_, rfl⟩
  · simp [Value.cells] at hcs
    obtain ⟨rfl, rfl, rfl⟩ := hcs
    simp only [if_true] at hmm
    rw [hC] at hi
    have each : ∀ i, ∃ q : Int × Int, i < n → W.cell? (x.add (i * 2)) = some (.int .i64 q.1) ∧ W.cell? (x.add (i * 2 + 1)) = some (.int .i64 q.2) := by
      intro i
      by_cases hin : i < n
      · obtain ⟨cs', hc, ht'⟩ := hi i (by omega)
        obtain ⟨ys, n', _, _, hlen, hyl, hfl⟩ := DataW.trod_struct hs ht'
        obtain ⟨_, hcl, hat⟩ := World.cells?_some hc
        obtain ⟨o0, k0⟩ := hone_of hone 0 f0 rfl
        obtain ⟨o1, k1⟩ := hone_of hone 1 f1 rfl
        match cs', hcl with
        | [u0, u1], _ =>
          match ys, hyl with
          | [y0, y1], _ =>
            have g0 := hfl 0 f0 rfl
            have g1 := hfl 1 f1 rfl
            rw [o0, k0] at g0
            rw [o1, k1] at g1
            obtain ⟨a, ha, _, _⟩ := DataW.trod_int h0 g0
            obtain ⟨b, hb, _, _⟩ := DataW.trod_int h1 g1
            cases ha
            cases hb
            have c0 := hat 0 (by decide)
            have c1 := hat 1 (by decide)
            refine ⟨(a, b), fun _ => ⟨?_, ?_⟩⟩
            · simpa [Addr.add] using c0
            · rw [← Go.Deep.add_add]; exact c1
      · exact ⟨(0, 0), fun h => absurd h hin⟩
    obtain ⟨g, hg⟩ := Classical.axiomOfChoice each
    refine ⟨_, n, c, (List.range n).map g, rfl, ⟨hl, hm, by rw [pairs_len]; simp, fun hn => ?_⟩, by simp⟩
    obtain ⟨b, off, spot⟩ := x
    have hc0 := (hg 0 hn).1
    have hspot : spot = none := by simpa [Addr.add] using World.cell?_spot hc0
    subst hspot
    refine ⟨b, off, rfl, ?_, fun j u hu => ?_⟩
    · have := World.block_lt_of_cell? W _ hc0
      simpa [addOff] using this
    · have hj : j < (pairs ((List.range n).map g)).length := (List.getElem?_eq_some_iff.1 hu).1
      rw [pairs_len] at hj
      simp only [List.length_map, List.length_range] at hj
      have hp := pairs_get ((List.range n).map g) (j / 2) (g (j / 2)) (by simp [show j / 2 < n by omega])
      have hq := hg (j / 2) (by omega)
      rcases Nat.mod_two_eq_zero_or_one j with hm2 | hm2
      · rw [show j / 2 * 2 = j by omega] at hp hq
        rw [hp.1] at hu
        rw [← addOff, hq.1, hu]
      · rw [show j / 2 * 2 + 1 = j by omega] at hp hq
        rw [hp.2] at hu
        rw [← addOff, hq.2, hu]
end

end Go.Proofs.Ytapfggpeodpflaa

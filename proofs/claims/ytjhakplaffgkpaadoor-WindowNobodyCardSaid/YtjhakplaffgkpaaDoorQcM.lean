/- What the arguments of a law are, read as data: opened once for each kind. Contracts of package quorum: Size, Has, With, Majority, Members; and of the reference's. Contracts of told, same, Count; how many are the same. -/
import Derived.Test.YtjhakplaffgkpaaDoorMbitsM
import Derived.Lib.SmallJoins
import Derived.Deep.Slices
import Derived.Test.YtjhakplaffgkpaaDoorQmM
import Derived.Defers
import Derived.Recover
namespace Go.Proofs.YtjhakplaffgkpaaDoor
open Go.ChangeShapes Go.WideShapes Go.ChangeAt Go.RowKit
open Go.ChangeMaps (open_string shut_string)
open Go.Joins (open_agg2)
open Go.Deep (oneCellFields open_slice hone_of)

theorem own : ownKnob Tryd.prog.godebug = none := by kernel_rfl
theorem laidOut : laidOutB Tryd.prog = true := by kernel_rfl

section
variable {H : Type} {enc : TypeId × Value → H} {P : Program} {W : World} {r : Reach} {b0 : Nat} {t e : TypeId} {v : Value} {d : DataW H} {p : List MemPlace}

theorem dec_nums {k : IntKind} (ht : P.underlying t = some (.slice e)) (he : P.underlying e = some (.int k)) (hc : P.cellsOf e = 1) (hok : Value.okWide P W r b0 t v) (h : DataW.Trod enc P W 0 (fun _ => true) true t v d p) :
    ∃ (A : Option Addr) (n c : Nat) (zs : List Int), v = .slice A n c ∧ Rd W W.heap.size 1 A n c (zs.map (Value.int k)) ∧ ∀ z ∈ zs, (Lit.int k z).wf = true := by
  obtain ⟨A, n, c, rfl⟩ := okWide_slice ht hok
  obtain ⟨fuel, hf⟩ := h
  rcases open_ints ht he hc hf with ⟨hcs, _⟩ | ⟨x, l, c', zs, hcs, _, hl, hm, hz, _, hcell, hwz⟩
  · simp [Value.cells] at hcs
    obtain ⟨rfl, rfl, rfl⟩ := hcs
    exact ⟨_, _, _, [], rfl, Rd.nil_, fun _ hx => by cases hx⟩
  · simp [Value.cells] at hcs
    obtain ⟨rfl, rfl, rfl⟩ := hcs
    simp only [if_true] at hz
    refine ⟨_, _, _, zs.take n, rfl, ⟨hl, hm, by simp; omega, fun hn => ?_⟩, fun z hx => hwz z (List.mem_of_mem_take hx)⟩
    obtain ⟨b, off, spot⟩ := x
    have hc0 := hcell 0 (by omega)
    have hspot : spot = none := by simpa [Addr.add] using World.cell?_spot hc0
    subst hspot
    refine ⟨b, off, rfl, ?_, fun j u hu => ?_⟩
    · have := World.block_lt_of_cell? W _ hc0
      simpa [addOff] using this
    · have hj : j < (zs.take n).length := by
        have := (List.getElem?_eq_some_iff.1 hu).1
        simpa using this
      have hj' : j < n ∧ j < zs.length := by rw [List.length_take] at hj; omega
      rw [← addOff, hcell j hj'.2]
      simp only [List.getElem?_map, List.getElem?_take, if_pos hj'.1, List.getElem?_eq_getElem hj'.2, Option.map_some, Option.some.injEq] at hu
      subst hu
      simp [List.getD, hj'.2]

theorem dec_bytes (ht : P.underlying t = some (.slice e)) (he : P.underlying e = some (.int .u8)) (hc : P.cellsOf e = 1) (hok : Value.okWide P W r b0 t v) (h : DataW.Trod enc P W 0 (fun _ => true) true t v d p) :
    ∃ (A : Option Addr) (n c : Nat) (l : List UInt8), v = .slice A n c ∧ Rd W W.heap.size 1 A n c (u8s l) := by
  obtain ⟨A, n, c, zs, rfl, hr, hw⟩ := dec_nums ht he hc hok h
  refine ⟨A, n, c, zs.map (fun z => UInt8.ofNat z.toNat), rfl, ?_⟩
  have : u8s (zs.map (fun z => UInt8.ofNat z.toNat)) = zs.map (Value.int .u8) := by
    simp only [u8s, List.map_map]
    refine List.map_congr_left fun z hz => ?_
    have h1 := hw z hz
    simp only [Lit.wf] at h1
    simp only [Function.comp, u8, UInt8.toNat_ofNat']
    refine congrArg _ ?_
    simp [IntKind.min, IntKind.max, IntKind.signed, IntKind.bits] at h1
    omega
  rw [this]
  exact hr

theorem dec_u64s (ht : P.underlying t = some (.slice e)) (he : P.underlying e = some (.int .u64)) (hc : P.cellsOf e = 1) (hok : Value.okWide P W r b0 t v) (h : DataW.Trod enc P W 0 (fun _ => true) true t v d p) :
    ∃ (A : Option Addr) (n c : Nat) (ns : List Nat), v = .slice A n c ∧ Rd W W.heap.size 1 A n c (u64s ns) ∧ Hid (∀ x ∈ ns, x < 18446744073709551616) := by
  obtain ⟨A, n, c, zs, rfl, hr, hw⟩ := dec_nums ht he hc hok h
  have hb : ∀ z ∈ zs, 0 ≤ z ∧ z < 18446744073709551616 := by
    intro z hz
    have h1 := hw z hz
    simp [Lit.wf, IntKind.min, IntKind.max, IntKind.signed, IntKind.bits] at h1
    omega
  refine ⟨A, n, c, zs.map Int.toNat, rfl, ?_, Lib.hid ?_⟩
  · have : u64s (zs.map Int.toNat) = zs.map (Value.int .u64) := by
      simp only [u64s, List.map_map]
      refine List.map_congr_left fun z hz => ?_
      have := hb z hz
      simp only [Function.comp]
      refine congrArg _ ?_
      omega
    rw [this]
    exact hr
  · intro x hx
    obtain ⟨z, hz, rfl⟩ := List.mem_map.1 hx
    have := hb z hz
    omega

theorem dec_string (ht : P.underlying t = some .string) (hok : Value.okWide P W r b0 t v) (h : DataW.Trod enc P W 0 (fun _ => true) true t v d p) : ∃ l, v = .string (str l) ∧ l.length ≤ maxLen := by
  obtain ⟨s, rfl, _, _, hs⟩ := open_string ht hok h
  exact ⟨s.data.toList, by simp [str], by rw [Array.length_toList]; exact hs⟩

theorem dec_int {k : IntKind} (ht : P.underlying t = some (.int k)) (hok : Value.okWide P W r b0 t v) (h : DataW.Trod enc P W 0 (fun _ => true) true t v d p) : ∃ n, v = .int k n ∧ (Lit.int k n).wf = true := by
  obtain ⟨n, rfl, _, _, hw⟩ := open_int ht hok h
  exact ⟨n, rfl, hw⟩

theorem dec_ints2 {f0 f1 : Field} {k0 k1 : IntKind} (hs : P.underlying t = some (.struct #[f0, f1])) (hone : oneCellFields P #[f0, f1] = true) (hC : P.cellsOf t = 2) (h0 : P.underlying f0.type = some (.int k0)) (h1 : P.underlying f1.type = some (.int k1))
    (hok : Value.okWide P W r b0 t v) (h : DataW.Trod enc P W 0 (fun _ => true) true t v d p) : ∃ a b, v = .agg #[.int k0 a, .int k1 b] ∧ (Lit.int k0 a).wf = true ∧ (Lit.int k1 b).wf = true := by
  obtain ⟨v0, v1, y0, y1, n, rfl, _, _, g0, g1⟩ := open_agg2 hs hone hC hok h
  obtain ⟨a, ha, _, hwa⟩ := DataW.trod_int h0 g0
  obtain ⟨b, hb, _, hwb⟩ := DataW.trod_int h1 g1
  cases ha
  cases hb
  exact ⟨a, b, rfl, hwa, hwb⟩

/-- The cells of pairs of ints. -/
def pairs (ps : List (Int × Int)) : List Value := ps.flatMap fun p => [.int .i64 p.1, .int .i64 p.2]
theorem pairs_len (ps : List (Int × Int)) : (pairs ps).length = ps.length * 2 := by
  induction ps with
  | nil => rfl
  | cons p ps ih => simp only [pairs, List.flatMap_cons, List.length_append, List.length_cons, List.length_nil] at ih ⊢; omega
theorem pairs_get (ps : List (Int × Int)) (i : Nat) (p : Int × Int) (h : ps[i]? = some p) : (pairs ps)[i * 2]? = some (.int .i64 p.1) ∧ (pairs ps)[i * 2 + 1]? = some (.int .i64 p.2) := by
  induction ps generalizing i with
  | nil => cases h
  | cons q ps ih =>
    cases i with
    | zero =>
      simp only [List.getElem?_cons_zero, Option.some.injEq] at h
      subst h
      exact ⟨rfl, rfl⟩
    | succ i =>
      have := ih i (by simpa using h)
      have e : pairs (q :: ps) = .int .i64 q.1 :: .int .i64 q.2 :: pairs ps := rfl
      rw [e, show (i + 1) * 2 = i * 2 + 1 + 1 from by omega]
      exact this

theorem dec_pairs {f0 f1 : Field} (ht : P.underlying t = some (.slice e)) (hs : P.underlying e = some (.struct #[f0, f1])) (hone : oneCellFields P #[f0, f1] = true) (hC : P.cellsOf e = 2) (h0 : P.underlying f0.type = some (.int .i64)) (h1 : P.underlying f1.type = some (.int .i64))
    (hok : Value.okWide P W r b0 t v) (h : DataW.Trod enc P W 0 (fun _ => true) true t v d p) :
    ∃ (A : Option Addr) (n c : Nat) (ps : List (Int × Int)), v = .slice A n c ∧ Rd W W.heap.size 2 A n c (pairs ps) ∧ ps.length = n := by
  obtain ⟨A, n, c, rfl⟩ := okWide_slice ht hok
  obtain ⟨fuel, hf⟩ := h
  rcases open_slice ht hf with ⟨hcs, _⟩ | ⟨x, l, c', m, k, D, Pl, hcs, _, hl, hm, hmm, _, hi⟩
  · simp [Value.cells] at hcs
    obtain ⟨rfl, rfl, rfl⟩ := hcs
    exact ⟨_, _, _, [], rfl, Rd.nil_, rfl⟩
  · simp [Value.cells] at hcs
    obtain ⟨rfl, rfl, rfl⟩ := hcs
    simp only [if_true] at hmm
    rw [hC] at hi
    have each : ∀ i, ∃ q : Int × Int, i < n → W.cell? (x.add (i * 2)) = some (.int .i64 q.1) ∧ W.cell? (x.add (i * 2 + 1)) = some (.int .i64 q.2) := by
      intro i
      by_cases hin : i < n
      · obtain ⟨cs', hc, ht'⟩ := hi i (by omega)
        obtain ⟨ys, n', _, _, hlen, hyl, hfl⟩ := DataW.trod_struct hs ht'
        obtain ⟨_, hcl, hat⟩ := World.cells?_some hc
        obtain ⟨o0, k0⟩ := hone_of hone 0 f0 rfl
        obtain ⟨o1, k1⟩ := hone_of hone 1 f1 rfl
        match cs', hcl with
        | [u0, u1], _ =>
          match ys, hyl with
          | [y0, y1], _ =>
            have g0 := hfl 0 f0 rfl
            have g1 := hfl 1 f1 rfl
            rw [o0, k0] at g0
            rw [o1, k1] at g1
            obtain ⟨a, ha, _, _⟩ := DataW.trod_int h0 g0
            obtain ⟨b, hb, _, _⟩ := DataW.trod_int h1 g1
            cases ha
            cases hb
            have c0 := hat 0 (by decide)
            have c1 := hat 1 (by decide)
            refine ⟨(a, b), fun _ => ⟨?_, ?_⟩⟩
            · simpa [Addr.add] using c0
            · rw [← Go.Deep.add_add]; exact c1
      · exact ⟨(0, 0), fun h => absurd h hin⟩
    obtain ⟨g, hg⟩ := Classical.axiomOfChoice each
    refine ⟨_, n, c, (List.range n).map g, rfl, ⟨hl, hm, by rw [pairs_len]; simp, fun hn => ?_⟩, by simp⟩
    obtain ⟨b, off, spot⟩ := x
    have hc0 := (hg 0 hn).1
    have hspot : spot = none := by simpa [Addr.add] using World.cell?_spot hc0
    subst hspot
    refine ⟨b, off, rfl, ?_, fun j u hu => ?_⟩
    · have := World.block_lt_of_cell? W _ hc0
      simpa [addOff] using this
    · have hj : j < (pairs ((List.range n).map g)).length := (List.getElem?_eq_some_iff.1 hu).1
      rw [pairs_len] at hj
      simp only [List.length_map, List.length_range] at hj
      have hp := pairs_get ((List.range n).map g) (j / 2) (g (j / 2)) (by simp [show j / 2 < n by omega])
      have hq := hg (j / 2) (by omega)
      rcases Nat.mod_two_eq_zero_or_one j with hm2 | hm2
      · rw [show j / 2 * 2 = j by omega] at hp hq
        rw [hp.1] at hu
        rw [← addOff, hq.1, hu]
      · rw [show j / 2 * 2 + 1 = j by omega] at hp hq
        rw [hp.2] at hu
        rw [← addOff, hq.2, hu]
end

end Go.Proofs.YtjhakplaffgkpaaDoor

namespace Go.Proofs.YtjhakplaffgkpaaDoor.Qu
open Go.RowKit
set_option maxRecDepth 20000

def is (l : List Int) : List Value := l.map (Value.int .i64)
theorem is_len (l : List Int) : (is l).length = l.length := by simp [is]
theorem is_app (l k : List Int) : is (l ++ k) = is l ++ is k := by simp [is]
theorem is_one (l : List Int) : ∀ u ∈ is l, u.oneCell' = true := by
  intro u hu
  obtain ⟨x, _, rfl⟩ := List.mem_map.1 hu
  rfl
theorem is_get {l : List Int} {i : Nat} (h : i < l.length) : (is l)[i]? = some (.int .i64 (l.getD i 0)) := by
  rw [List.getD]
  simp [is, h]
theorem is_take (l : List Int) (k : Nat) : is (l.take k) = (is l).take k := by simp [is, List.map_take]
theorem is_drop (l : List Int) (k : Nat) : is (l.drop k) = (is l).drop k := by simp [is, List.map_drop]
theorem shr_run (B y : Nat) (z : Int) (hB : B < 18446744073709551616) (hz : z = (y : Int)) : (B : Int) / 2 ^ min z.toNat 64 = ((B >>> y : Nat) : Int) := by
  subst hz
  rw [Int.toNat_natCast, Nat.shiftRight_eq_div_pow]
  by_cases hy : y ≤ 64
  · rw [Nat.min_eq_left hy]; simp
  · rw [Nat.min_eq_right (by omega), Nat.div_eq_of_lt (Nat.lt_of_lt_of_le hB (Nat.pow_le_pow_right (n := 2) (by decide) (show 64 ≤ y by omega)))]
    omega
theorem shr_op (B y : Nat) (z : Int) (hB : B < 18446744073709551616) (hz : z = (y : Int)) {yk : IntKind} : Op.shift .shr .u64 (B : Int) yk z = pure (.int .u64 ((B >>> y : Nat) : Int)) := by
  have e := shr_run B y z hB hz
  have h1 : ¬ (z < 0) := by omega
  have h2 : (0 : Int) ≤ 2 ^ min z.toNat 64 := Int.pow_nonneg (by decide)
  simp [Op.shift, IntKind.bits, h1, Int.fdiv_eq_ediv_of_nonneg _ h2, e]
theorem shl_op {yk : IntKind} (y : Nat) (z : Int) (hy : y < 64) (hz : z = (y : Int)) : Op.shift .shl .u64 1 yk z = pure (.int .u64 ((2 ^ y : Nat) : Int)) := by
  subst hz
  have := pow_lt64 hy
  rw [shift_shl .u64 yk _ _ (by omega) (by simp [IntKind.bits]; omega), Int.toNat_natCast, Int.one_mul, show (2 : Int) ^ y = ((2 ^ y : Nat) : Int) by simp]
  generalize 2 ^ y = p at *
  rw [u64w _ (by omega) (by omega)]
theorem shl_run (y : Nat) (z : Int) (hy : y < 64) (hz : z = (y : Int)) : IntKind.u64.wrap (1 * 2 ^ z.toNat) = ((2 ^ y : Nat) : Int) := by
  subst hz
  have := pow_lt64 hy
  rw [Int.toNat_natCast, Int.one_mul, show (2 : Int) ^ y = ((2 ^ y : Nat) : Int) by simp]
  generalize 2 ^ y = p at *
  exact u64w _ (by omega) (by omega)
theorem and_run (X : Nat) (hX : X < 18446744073709551616) : bits .and .u64 (X : Int) 1 = if X.testBit 0 then 1 else 0 := by
  have := bits_and_u64_nat X 1 hX (by decide)
  rw [show ((1 : Nat) : Int) = 1 from rfl] at this
  rw [this, Nat.and_one_is_mod, Nat.testBit_zero]
  rcases Nat.mod_two_eq_zero_or_one X with h | h <;> simp [h]
theorem or_run (a b : Nat) (ha : a < 18446744073709551616) (hb : b < 18446744073709551616) : bits .or .u64 (a : Int) (b : Int) = ((a ||| b : Nat) : Int) := by
  have hx : a ||| b < 2 ^ 64 := Nat.or_lt_two_pow ha hb
  have h1 : (BitVec.ofInt 64 (a : Int)).toNat = a := by
    rw [BitVec.ofInt_natCast, BitVec.toNat_ofNat]; exact Nat.mod_eq_of_lt (by omega)
  have h2 : (BitVec.ofInt 64 (b : Int)).toNat = b := by
    rw [BitVec.ofInt_natCast, BitVec.toNat_ofNat]; exact Nat.mod_eq_of_lt (by omega)
  show IntKind.u64.wrap ((BitVec.ofInt 64 (a : Int) ||| BitVec.ofInt 64 (b : Int)).toNat : Int) = _
  rw [BitVec.toNat_or, h1, h2, u64w _ (by omega) (by omega)]


theorem shr_lt64 {B : Nat} (y : Nat) (h : B < 18446744073709551616) : B >>> y < 18446744073709551616 := by
  rw [Nat.shiftRight_eq_div_pow]
  exact Nat.lt_of_le_of_lt (Nat.div_le_self _ _) h
theorem size_any (x : Nat) (w : World) (hx : x < 18446744073709551616) :
    Calls Tryd.prog 35 #[.int .u64 (x : Int)] w fun e w' => e = .returned (.int .i64 ((pop 64 x : Nat) : Int)) ∧ w = w' := by
  have hA := ones_any x w hx
  clear hx
  generalize pop 64 x = p at *
  go_enter Tryd.func35, Tryd.ntmps35
  go_wp2_with (go_at_call 46; (with_reducible refine hA.mono ?_); rintro e w3 ⟨rfl, rfl⟩)
  go_ret
  exact ⟨rfl, rfl⟩
theorem node_any (n : Int) (w : World) :
    Calls Tryd.prog 38 #[.int .i64 n] w fun e w' => e = .returned (.bool (decide (0 ≤ n) && decide (n < 64))) ∧ w = w' := by
  by_cases h1 : 0 ≤ n
  · by_cases h2 : n < 64
    · have d2 : decide (n < 64) = true := by simpa using h2
      go_enter Tryd.func38, Tryd.ntmps38
      go_wp2
      go_ret
      exact ⟨by simp [h1, h2], rfl⟩
    · have d2 : decide (n < 64) = false := by simpa using h2
      go_enter Tryd.func38, Tryd.ntmps38
      go_wp2
      go_ret
      exact ⟨by simp, rfl⟩
  · have d2 : decide (0 ≤ n) = false := by simpa using h1
    go_enter Tryd.func38, Tryd.ntmps38
    go_wp2
    go_ret
    exact ⟨by simp, rfl⟩
theorem has_any (s : Nat) (n : Int) (w : World) (hs : s < 18446744073709551616) :
    Calls Tryd.prog 25 #[.int .u64 (s : Int), .int .i64 n] w fun e w' => e = .returned (.bool (inB s n)) ∧ w = w' := by
  have hN := fun W => node_any n W
  by_cases h : 0 ≤ n ∧ n < 64
  · obtain ⟨h1, h2⟩ := h
    obtain ⟨k, rfl⟩ : ∃ k : Nat, n = (k : Int) := ⟨n.toNat, by omega⟩
    have hk : k < 64 := by omega
    rw [inB_nat s k hk]
    have e1 := shr_op (yk := .i64) s k (k : Int) hs rfl
    have e2 := and_run _ (shr_lt64 k hs)
    rw [show (s >>> k).testBit 0 = s.testBit k by rw [Nat.testBit_shiftRight, Nat.add_zero]] at e2
    have q : (decide (0 ≤ (k : Int)) && decide ((k : Int) < 64)) = true := by simp; omega
    rw [q] at hN
    clear q h1 h2 hk hs
    generalize s >>> k = X at *
    cases hb : s.testBit k
    all_goals
      rw [hb] at e2
      simp only [if_true, Bool.false_eq_true, if_false] at e2
      clear hb
      go_enter Tryd.func25, Tryd.ntmps25
      go_wp2_with (go_at_call 38; (with_reducible refine (hN _).mono ?_); rintro e w3 ⟨rfl, rfl⟩)
      go_ret
      exact ⟨rfl, rfl⟩
  · have q : (decide (0 ≤ n) && decide (n < 64)) = false := by
      cases hd : (decide (0 ≤ n) && decide (n < 64)) with
      | false => rfl
      | true => simp at hd; exact absurd hd h
    have e : inB s n = false := by unfold inB; rw [← Bool.and_assoc, q]; rfl
    rw [q] at hN
    rw [e]
    clear q h e hs
    go_enter Tryd.func25, Tryd.ntmps25
    go_wp2_with (go_at_call 38; (with_reducible refine (hN _).mono ?_); rintro e w3 ⟨rfl, rfl⟩)
    go_ret
    exact ⟨rfl, rfl⟩
theorem maj_any (a b : Nat) (w : World) (ha : a < 18446744073709551616) (hb : b < 18446744073709551616) :
    Calls Tryd.prog 30 #[.int .u64 (a : Int), .int .u64 (b : Int)] w fun e w' => e = .returned (.bool (majB a b)) ∧ w = w' := by
  have e1 := bits_and_u64_nat a b ha hb
  have hA := fun W => size_any (a &&& b) W (and_lt64 b ha)
  have hB := fun W => size_any b W hb
  have p1 := pop64_le (a &&& b)
  have p2 := pop64_le b
  unfold majB
  clear ha hb
  generalize a &&& b = c at *
  generalize pop 64 c = x at *
  generalize pop 64 b = y at *
  by_cases hlt : y < 2 * x
  · have d1 : decide (y < 2 * x) = true := by simpa using hlt
    go_enter Tryd.func30, Tryd.ntmps30
    go_wp2_with (first
      | (go_at_call 35; (with_reducible refine (hA _).mono ?_); clear hA; rintro e w3 ⟨rfl, rfl⟩)
      | (go_at_call 35; (with_reducible refine (hB _).mono ?_); rintro e w3 ⟨rfl, rfl⟩))
    go_ret
    exact ⟨by rw [d1]; simp; omega, rfl⟩
  · have d1 : decide (y < 2 * x) = false := by simpa using hlt
    go_enter Tryd.func30, Tryd.ntmps30
    go_wp2_with (first
      | (go_at_call 35; (with_reducible refine (hA _).mono ?_); clear hA; rintro e w3 ⟨rfl, rfl⟩)
      | (go_at_call 35; (with_reducible refine (hB _).mono ?_); rintro e w3 ⟨rfl, rfl⟩))
    go_ret
    exact ⟨by rw [d1]; simp; omega, rfl⟩
/-- The numbers that a slice has, behind a set. -/
theorem with_any {w : World} {A : Option Addr} {n c : Nat} {l : List Int} (s : Nat) (hs : s < 18446744073709551616) (h : Rd w w.heap.size 1 A n c (is l)) (hn : n ≤ 1000000) :
    Calls Tryd.prog 23 #[.int .u64 (s : Int), .slice A n c] w fun e w' => e = .returned (.int .u64 ((withN s l : Nat) : Int)) ∧ w = w' := by
  have hl : l.length = n := by have := h.len; rwa [is_len] at this
  have H1 := Lib.hid (fun i (hi : i < n) => h.at_ hi)
  have HL := Lib.hid hl
  have HS := Lib.hid hs
  have hN := fun W n => node_any n W
  clear h hl hs
  go_enter Tryd.func23, Tryd.ntmps23
  go_wp2_with (fail)
  go_loop [0, 9] (fun sr ir => ∃ i : Nat, i ≤ n ∧ ir = .int .i64 (i : Int) ∧ sr = .int .u64 ((withN s (l.take i) : Nat) : Int)) (fun _ ir => n - (intOf ir).toNat)
  case atStart => exact ⟨0, Nat.zero_le _, rfl, rfl⟩
  case round =>
    obtain ⟨i, hi, rfl, rfl⟩ := hrel
    by_cases hlt : i < n
    · obtain ⟨p1, o1, v1, rfl, hp1, hv1, hc1⟩ := H1.out i hlt
      obtain ⟨x, hx, rfl⟩ : ∃ x, l[i]? = some x ∧ v1 = .int .i64 x := by
        unfold is at hv1
        rw [List.getElem?_map] at hv1
        cases hx : l[i]? with
        | none => rw [hx] at hv1; cases hv1
        | some x => rw [hx] at hv1; exact ⟨x, rfl, (Option.some.inj hv1).symm⟩
      have hst : withN s (l.take (i + 1)) = with1 (withN s (l.take i)) x := by
        obtain ⟨hil, rfl⟩ := List.getElem?_eq_some_iff.1 hx
        rw [List.take_succ_eq_append_getElem hil]
        unfold withN
        rw [List.foldl_append]
        rfl
      have hlt1 := withN_lt (l.take i) HS.out
      have HST := Lib.hid hst
      clear hv1 hp1 hx hst
      generalize withN s (l.take i) = q at *
      have HN := hN
      by_cases hx : 0 ≤ x ∧ x < 64
      · obtain ⟨k, rfl⟩ : ∃ k : Nat, x = (k : Int) := ⟨x.toNat, by omega⟩
        have hk : k < 64 := by omega
        have e1 := shl_op (yk := .i64) k (k : Int) hk rfl
        have e2 := or_run q (2 ^ k) hlt1 (pow_lt64 hk)
        have e3 : with1 q (k : Int) = q ||| 2 ^ k := by unfold with1; rw [if_pos hx]; rfl
        rw [e3] at HST
        have hN := fun W => hN W (k : Int)
        have qb : (decide (0 ≤ (k : Int)) && decide ((k : Int) < 64)) = true := by simp; omega
        rw [qb] at hN
        clear qb HN hx hk hlt1 e3
        generalize 2 ^ k = pk at *
        go_wp2_with (go_at_call 38; (with_reducible refine (hN _).mono ?_); rintro e w3 ⟨rfl, rfl⟩)
        go_round
        case rel => exact ⟨i + 1, by omega, by go_num, by rw [HST.out]⟩
        case measure => simp [intOf]; omega
      · have e3 : with1 q x = q := by unfold with1; rw [if_neg hx]
        rw [e3] at HST
        have hN := fun W => hN W x
        have qb : (decide (0 ≤ x) && decide (x < 64)) = false := by
          cases hd : (decide (0 ≤ x) && decide (x < 64)) with
          | false => rfl
          | true => simp at hd; exact absurd hd hx
        rw [qb] at hN
        clear qb HN hx hlt1 e3
        go_wp2_with (go_at_call 38; (with_reducible refine (hN _).mono ?_); rintro e w3 ⟨rfl, rfl⟩)
        go_round
        case rel => exact ⟨i + 1, by omega, by go_num, by rw [HST.out]⟩
        case measure => simp [intOf]; omega
    · obtain rfl : i = n := by omega
      go_wp2
      go_ret
      exact ⟨by rw [List.take_of_length_le (by rw [HL.out]; exact Nat.le_refl _)]; rfl, rfl⟩
end Go.Proofs.YtjhakplaffgkpaaDoor.Qu

namespace Go.Proofs.YtjhakplaffgkpaaDoor.Qu
open Go.RowKit

def cnti (l : List Int) (x : Int) : Nat := l.countP fun y => y == x
theorem cnti_snoc (l : List Int) (y x : Int) : cnti (l ++ [y]) x = cnti l x + if (y == x) = true then 1 else 0 := by
  unfold cnti; rw [List.countP_append, List.countP_singleton]
theorem cnt_snoc (l : List UInt8) (y : UInt8) (x : Nat) : cnt (l ++ [y]) x = cnt l x + if (y.toNat == x) = true then 1 else 0 := by
  unfold cnt; rw [List.countP_append, List.countP_singleton]
theorem cnt_le (l : List UInt8) (x : Nat) : cnt l x ≤ l.length := List.countP_le_length
theorem cnti_le (l : List Int) (x : Int) : cnti l x ≤ l.length := List.countP_le_length
end Go.Proofs.YtjhakplaffgkpaaDoor.Qu

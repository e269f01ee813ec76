/- The contract of marks.Set. Whether an entry may be done: the program's May and the reference's. -/
import Derived.Test.YtgejmeankppmhaaDoorImM
import Derived.Test.YtgejmeankppmhaaDoorBlightM
import Derived.Test.YtgejmeankppmhaaDoorAsksM
import Derived.Deep.DeepCutAuto
import Derived.Deep.CutBlock
namespace Go.Proofs.YtgejmeankppmhaaDoor
open Go.RowKit

/-- Marks with a number more, where it has room. -/
def mset (L B n : Nat) : Nat × Nat := if n ≤ L then (L, B) else (L + tro (B ||| 2 ^ (n - L - 1)), (B ||| 2 ^ (n - L - 1)) >>> tro (B ||| 2 ^ (n - L - 1)))
/-- Has a number room? -/
def Room (L n : Nat) : Prop := n ≤ 4611686018427387840 ∧ n ≤ L + 64
instance (L n : Nat) : Decidable (Room L n) := inferInstanceAs (Decidable (_ ∧ _))
theorem mset_hs (L B n x : Nat) (hB : B < 18446744073709551616) (hr : Room L n) : Hs (mset L B n).1 (mset L B n).2 x = (Hs L B x || decide (x = n)) := by
  unfold mset
  by_cases h : n ≤ L
  · rw [if_pos h]
    by_cases hx : x = n
    · subst hx; rw [hs_low h]; simp
    · simp [hx]
  · rw [if_neg h]
    have hp := pow_lt (n - L - 1) (by have := hr.2; omega)
    rw [hs_settle _ _ _ (or_lt _ _ hB hp), hs_set L B n x (by omega)]
theorem mset_lt (L B n : Nat) (hB : B < 18446744073709551616) (hr : Room L n) : (mset L B n).2 < 18446744073709551616 := by
  unfold mset
  split
  · exact hB
  · exact shr_lt _ _ (or_lt _ _ hB (pow_lt _ (by have := hr.2; omega)))
theorem mset_gd (L B n : Nat) (hB : B < 18446744073709551616) (hr : Room L n) (hg : Gd L B) : Gd (mset L B n).1 (mset L B n).2 := by
  unfold mset
  by_cases h : n ≤ L
  · rw [if_pos h]; exact hg
  · rw [if_neg h]
    have hp := pow_lt (n - L - 1) (by have := hr.2; omega)
    refine gd_settle L _ (or_lt _ _ hB hp) fun x hx => ?_
    rw [hs_set L B n x (by omega)] at hx
    rw [Bool.or_eq_true] at hx
    rcases hx with h | h
    · exact gd_le hB hg h
    · have := of_decide_eq_true h; subst this; exact hr.1

set_option maxHeartbeats 1000000 in
theorem set_ok (L B n : Nat) (w : World) (hL : L ≤ 4611686018427387840) (hB : B < 18446744073709551616) (hT : Tab w) (hr : Room L n) :
    Calls Tryd.prog 19 #[.agg #[.int .u64 (L : Int), .int .u64 (B : Int)], .int .u64 (n : Int)] w fun e w' => e = .returned (.tuple #[.agg #[.int .u64 ((mset L B n).1 : Int), .int .u64 ((mset L B n).2 : Int)], .int .i64 0]) ∧ Below w.heap.size w w' := by
  obtain ⟨hn, hn2⟩ := hr
  have d1 : decide ((4611686018427387840 : Int) < (n : Int)) = false := by simp; omega
  by_cases h : n ≤ L
  · have hm : mset L B n = (L, B) := by unfold mset; rw [if_pos h]
    rw [hm]
    have d2 : decide (L < n) = false := by simp; omega
    have d3 : decide (n ≤ L) = true := by simp; omega
    clear hm hn hn2 hL hB
    go_enter Tryd.func19, Tryd.ntmps19
    go_wp2
    refine bodyPost_ret (v := .tuple #[.agg #[.int .u64 (L : Int), .int .u64 (B : Int)], .int .i64 0]) (by simp [results, Tryd.results19, go_sem]) rfl ⟨rfl, ?_⟩
    exact ((Below.refl _ _).alloc (Nat.le_refl _) _).alloc (by simp) _
  · have hm : mset L B n = (L + tro (B ||| 2 ^ (n - L - 1)), (B ||| 2 ^ (n - L - 1)) >>> tro (B ||| 2 ^ (n - L - 1))) := by unfold mset; rw [if_neg h]
    rw [hm]
    have d2 : decide (L < n) = true := by simp; omega
    have d3 : decide (n ≤ L) = false := by simp; omega
    have d4 : decide ((64 : Int) < (n : Int) - (L : Int)) = false := by simp; omega
    have hp := pow_lt (n - L - 1) (by omega)
    have e1 := shl_op (n - L - 1) ((n : Int) - (L : Int) - 1) (by omega) (by omega)
    have e2 := or_run B (2 ^ (n - L - 1)) hB hp
    have hs := fun W hW => settled_any L (B ||| 2 ^ (n - L - 1)) W hL (or_lt _ _ hB hp) hW
    have hLn : (L : Int) < (n : Int) := by omega
    have hn4 : n < 18446744073709551616 := by omega
    generalize B ||| 2 ^ (n - L - 1) = X at *
    generalize 2 ^ (n - L - 1) = Y at *
    generalize L + tro X = L' at *
    generalize X >>> tro X = X' at *
    clear hm h hn hn2 hL
    go_enter Tryd.func19, Tryd.ntmps19
    go_wp2_with fail
    refine (hs _ (hT.below (((Below.refl _ _).alloc (Nat.le_refl _) _).alloc (by simp) _))).mono ?_
    rintro e w1 ⟨rfl, hb1⟩
    obtain ⟨W, hW, hWs, r0, r1, hwW⟩ := boxes2 w #[.int .u64 (L : Int), .int .u64 (X : Int)] #[.int .u64 0, .int .u64 0] 25 25
    rw [← hW] at hb1
    have c0 := cellz (j := 0) (u := .int .u64 0) hb1 r1 rfl
    have c1 := cellz (j := 1) (u := .int .u64 0) hb1 r1 rfl
    have z0 := frozenz hb1 0 r1
    have z1 := frozenz hb1 1 r1
    go_wp2
    exact bodyPost_ret (v := .tuple #[.agg #[.int .u64 (L' : Int), .int .u64 (X' : Int)], .int .i64 0]) (by simp [results, Tryd.results19, go_sem, c0, c1]) rfl ⟨rfl, hwW.trans ((((show Below (w.heap.size + 1) W w1 from hb1.mono (by omega)).setCell (Nat.le_refl _) _).setCell (Nat.le_refl _) _).mono (by omega))⟩

set_option maxHeartbeats 1000000 in
theorem set_no (L B n : Nat) (w : World) (_ : L ≤ 4611686018427387840) (hn4 : n < 18446744073709551616) (hr : ¬ Room L n) :
    Calls Tryd.prog 19 #[.agg #[.int .u64 (L : Int), .int .u64 (B : Int)], .int .u64 (n : Int)] w fun e w' => e = .returned (.tuple #[.agg #[.int .u64 (L : Int), .int .u64 (B : Int)], .int .i64 30]) ∧ Below w.heap.size w w' := by
  by_cases hn : n ≤ 4611686018427387840
  · have h2 : ¬ n ≤ L + 64 := fun h => hr ⟨hn, h⟩
    have d1 : decide ((4611686018427387840 : Int) < (n : Int)) = false := by simp; omega
    have d2 : decide (L < n) = true := by simp; omega
    have d4 : decide ((64 : Int) < (n : Int) - (L : Int)) = true := by simp; omega
    have hLn : (L : Int) < (n : Int) := by omega
    clear hr hn h2
    go_enter Tryd.func19, Tryd.ntmps19
    go_wp2
    exact bodyPost_ret (v := .tuple #[.agg #[.int .u64 (L : Int), .int .u64 (B : Int)], .int .i64 30]) (by simp [results, Tryd.results19, go_sem]) rfl ⟨rfl, ((Below.refl _ _).alloc (Nat.le_refl _) _).alloc (by simp) _⟩
  · have d1 : decide ((4611686018427387840 : Int) < (n : Int)) = true := by simp; omega
    clear hr hn
    go_enter Tryd.func19, Tryd.ntmps19
    go_wp2
    exact bodyPost_ret (v := .tuple #[.agg #[.int .u64 (L : Int), .int .u64 (B : Int)], .int .i64 30]) (by simp [results, Tryd.results19, go_sem]) rfl ⟨rfl, ((Below.refl _ _).alloc (Nat.le_refl _) _).alloc (by simp) _⟩

end Go.Proofs.YtgejmeankppmhaaDoor

namespace Go.Proofs.YtgejmeankppmhaaDoor.Bh
open Go.RowKit
set_option maxRecDepth 20000

/-- Of the first k indices above L each is done, or clashes not. -/
def En.mayTo (e : En) (L B k : Nat) : Bool := (List.range' (L + 1) k).all fun i => Hs L B i || !e.clash i
def En.may (e : En) (L B : Nat) : Bool := e.mayTo L B (e.ix - (L + 1))
theorem En.mayTo_succ (e : En) (L B k : Nat) : e.mayTo L B (k + 1) = (e.mayTo L B k && (Hs L B (L + 1 + k) || !e.clash (L + 1 + k))) := by
  unfold En.mayTo
  rw [List.range'_concat, List.all_append, Nat.one_mul]
  simp
theorem En.mayTo_no (e : En) (L B k m : Nat) (h : e.mayTo L B k = false) (hm : k ≤ m) : e.mayTo L B m = false := by
  induction m with
  | zero => rwa [Nat.le_zero.1 hm] at h
  | succ m ih =>
    rcases Nat.lt_or_ge m k with h1 | h1
    · rwa [show m + 1 = k by omega]
    · rw [e.mayTo_succ, ih h1]; rfl
/-- A box with an entry, and one with marks. -/
structure EB (w wr : World) (p q : Nat) (e : En) (L B : Nat) (t : TypeId) : Prop where
  e : wr.heap[p]? = some (.cells e.cells 43 (0, 0))
  m : wr.heap[q]? = some (.cells #[.int .u64 (L : Int), .int .u64 (B : Int)] t (0, 0))
  bel : Below w.heap.size w wr
theorem EB.below {w wr w' : World} {p q L B : Nat} {e : En} {t : TypeId} (h : EB w wr p q e L B t) (hb : Below wr.heap.size wr w') : EB w w' p q e L B t :=
  ⟨row_below h.e hb, row_below h.m hb, h.bel.trans (hb.mono h.bel.size)⟩
theorem eb_new (w : World) (e : En) (L B : Nat) (t : TypeId) : ∃ W, W = (w.alloc (.cells e.cells 43)).alloc (.cells #[.int .u64 (L : Int), .int .u64 (B : Int)] t) ∧ EB w W w.heap.size (w.heap.size + 1) e L B t := by
  obtain ⟨W, hW, hs, r0, r1, hb⟩ := boxes2 w e.cells #[.int .u64 (L : Int), .int .u64 (B : Int)] 43 t
  exact ⟨W, hW, r0, r1, hb⟩
theorem ecell {w : World} {p : Nat} {e : En} {t : TypeId} {fr : Nat × Nat} (h : w.heap[p]? = some (.cells e.cells t fr)) (i : Nat) : w.cell? ⟨p, i, none⟩ = e.cells[i]? := cell_of_row w p i _ _ _ h

set_option maxHeartbeats 4000000 in
theorem may_any (e : En) (L B : Nat) (w : World) (h : e.Reads w) (hL : L < 18446744073709551615) (hB : B < 18446744073709551616) :
    Calls Tryd.prog 12 #[.agg e.cells, .agg #[.int .u64 (L : Int), .int .u64 (B : Int)]] w fun r w' => r = .returned (.bool (e.may L B)) ∧ Below w.heap.size w w' := by
  obtain ⟨W, hW, hE⟩ := eb_new w e L B 25
  have HE := Lib.hid hE
  have HL := Lib.hid hL
  have hix := h.ix
  have HH := Lib.hid (fun W' (hb : Below w.heap.size w W') x (hx : x < 18446744073709551616) => has_any L B x W' (by omega) hB hx)
  have HC := Lib.hid (fun W' (hb : Below w.heap.size w W') x (hx : x < 18446744073709551616) => clash_any e x W' (h.below hb) hx)
  by_cases h1 : e.ix ≤ L
  · have hm : e.may L B = true := by unfold En.may; rw [show e.ix - (L + 1) = 0 by omega]; rfl
    rw [hm]
    have q1 : decide (e.ix ≤ L) = true := by simpa using h1
    have q1' : decide ((e.ix : Int) ≤ (L : Int)) = true := by simp; omega
    have a0 := ecell hE.e 0
    have b0 := cell_of_row W _ 0 _ _ _ hE.m
    obtain ⟨ix, tm, st, kd, cl, rq, fr, ct, da, A, bn, bc, ls⟩ := e
    unfold En.cells at *
    dsimp only at *
    clear h hm hE hL hB hix h1
    go_enter Tryd.func12, Tryd.ntmps12
    go_upto_region 1 with (fail)
    rw [← hW]
    clear hW
    go_wp2
    go_ret
    exact ⟨rfl, HE.out.bel⟩
  · have q1 : decide (e.ix ≤ L) = false := by simpa using h1
    have q1' : decide ((e.ix : Int) ≤ (L : Int)) = false := by simp; omega
    obtain ⟨l0, hl0⟩ : ∃ l0, L + 1 = l0 := ⟨_, rfl⟩
    have e0 : IntKind.u64.wrap ((L : Int) + 1) = (l0 : Int) := by rw [u64w _ (by omega) (by omega)]; omega
    have a0 := ecell hE.e 0
    have b0 := cell_of_row W _ 0 _ _ _ hE.m
    have HLL := Lib.hid (And.intro hl0 hix)
    have HM := Lib.hid (show e.may L B = e.mayTo L B (e.ix - l0) by unfold En.may; rw [hl0])
    have HMS := Lib.hid (fun k => e.mayTo_succ L B k)
    have HMN := Lib.hid (fun k m h1 h2 => e.mayTo_no L B k m h1 h2)
    obtain ⟨F, hF⟩ : ∃ F, e.mayTo L B = F := ⟨_, rfl⟩
    rw [hF] at HM HMS HMN
    have HF := Lib.hid (show F 0 = true by rw [← hF]; rfl)
    obtain ⟨G, hG⟩ : ∃ G, e.may L B = G := ⟨_, rfl⟩
    rw [hG] at HM ⊢
    obtain ⟨C, hC⟩ : ∃ C, e.clash = C := ⟨_, rfl⟩
    rw [hC] at HC HMS
    clear h hL hB hl0 hix h1 hF hG hC hE
    obtain ⟨ix, tm, st, kd, cl, rq, fr, ct, da, A, bn, bc, ls⟩ := e
    unfold En.cells at *
    dsimp only at *
    go_enter Tryd.func12, Tryd.ntmps12
    go_upto_region 1 with (fail)
    rw [← hW]
    clear hW
    go_wp2_with (fail)
    go_loopw [5] (fun ir wr => ∃ k : Nat, k ≤ ix - l0 ∧ ir = .int .u64 ((l0 + k : Nat) : Int) ∧ Hid (F k = true) ∧ Hid (EB w wr w.heap.size (w.heap.size + 1) ⟨ix, tm, st, kd, cl, rq, fr, ct, da, A, bn, bc, ls⟩ L B 25)) (fun ir _ => ix + 1 - (intOf ir).toNat)
    case atStart => exact ⟨0, Nat.zero_le _, rfl, HF, HE⟩
    case round =>
      clear a0 b0
      obtain ⟨k, hk, rfl, HFk, HO⟩ := hrel
      have a0 := ecell HO.out.e 0
      have a1 := ecell HO.out.e 1
      have a2 := ecell HO.out.e 2
      have a3 := ecell HO.out.e 3
      have a4 := ecell HO.out.e 4
      have a5 := ecell HO.out.e 5
      have a6 := ecell HO.out.e 6
      have a7 := ecell HO.out.e 7
      have a8 := ecell HO.out.e 8
      have a9 := ecell HO.out.e 9
      unfold En.cells at a0 a1 a2 a3 a4 a5 a6 a7 a8 a9
      dsimp only at a0 a1 a2 a3 a4 a5 a6 a7 a8 a9
      have b0 := cell_of_row wr _ 0 _ _ _ HO.out.m
      have b1 := cell_of_row wr _ 1 _ _ _ HO.out.m
      by_cases hlt : k < ix - l0
      · obtain ⟨x, hx⟩ : ∃ x, l0 + k = x := ⟨_, rfl⟩
        obtain ⟨x', hx'⟩ : ∃ x', l0 + (k + 1) = x' := ⟨_, rfl⟩
        have hx64 : x < 18446744073709551615 := by have := HLL.out; omega
        have d1 : decide (x < ix) = true := by simp; omega
        have d1' : decide ((x : Int) < (ix : Int)) = true := by simp; omega
        have ew : IntKind.u64.wrap ((x : Int) + 1) = (x' : Int) := by rw [u64w _ (by omega) (by omega)]; omega
        have hms := HMS.out k
        rw [HFk.out, Bool.true_and, show L + 1 + k = x by have := HLL.out; omega] at hms
        have hcon := HMN.out (k + 1) (ix - l0)
        have hme : ((x : Int)).toNat = x := rfl
        have hme2 : ((x' : Int)).toNat = x' := rfl
        have HX := Lib.hid (And.intro hx (And.intro hx' hlt))
        have HH1 := Lib.hid (HH.out wr HO.out.bel x (by omega))
        have HC1 := Lib.hid (fun W' (hb : Below wr.heap.size wr W') => HC.out W' (HO.out.bel.trans (hb.mono HO.out.bel.size)) x (by omega))
        have HO2 := Lib.hid (fun W' (hb : Below wr.heap.size wr W') => HO.out.below hb)
        rw [hx]
        clear hx hx' hx64 hlt
        cases hs : Hs L B x with
        | true =>
          rw [hs] at HH1
          rw [hs, Bool.true_or] at hms
          have HMS1 := Lib.hid hms
          clear hs hms hcon
          go_wp2_with (first
            | (go_at_call 20; refine HH1.out.mono ?_; rintro r w3 ⟨rfl, hb3⟩)
            | fail)
          go_roundw
          case rel => exact ⟨k + 1, by have := HX.out; omega, by rw [HX.out.2.1], HMS1, Lib.hid (HO2.out _ hb3)⟩
          case measure => have := HX.out; simp [intOf]; omega
        | false =>
          rw [hs] at HH1
          rw [hs, Bool.false_or] at hms
          cases hc : C x with
          | true =>
            rw [hc] at HC1
            rw [hc] at hms
            have HG := Lib.hid (show G = false from HM.out.trans (hcon hms (by have := HX.out; omega)))
            clear hs hms hcon hc
            go_wp2_with (first
              | (go_at_call 20; refine HH1.out.mono ?_; rintro r w3 ⟨rfl, hb3⟩
                 have HO3 := Lib.hid (HO2.out _ hb3)
                 have e0 := ecell HO3.out.e 0
                 have e1 := ecell HO3.out.e 1
                 have e2 := ecell HO3.out.e 2
                 have e3 := ecell HO3.out.e 3
                 have e4 := ecell HO3.out.e 4
                 have e5 := ecell HO3.out.e 5
                 have e6 := ecell HO3.out.e 6
                 have e7 := ecell HO3.out.e 7
                 have e8 := ecell HO3.out.e 8
                 have e9 := ecell HO3.out.e 9
                 unfold En.cells at e0 e1 e2 e3 e4 e5 e6 e7 e8 e9
                 dsimp only at e0 e1 e2 e3 e4 e5 e6 e7 e8 e9
                 have HC3 := Lib.hid (HC1.out _ hb3)
                 clear hb3)
              | (go_at_call 33; refine HC3.out.mono ?_; rintro r w4 ⟨rfl, hb4⟩)
              | fail)
            go_ret
            rw [HG.out]
            exact ⟨rfl, (HO3.out.below hb4).bel⟩
          | false =>
            rw [hc] at HC1
            rw [hc] at hms
            have HMS1 := Lib.hid hms
            clear hs hms hcon hc
            go_wp2_with (first
              | (go_at_call 20; refine HH1.out.mono ?_; rintro r w3 ⟨rfl, hb3⟩
                 have HO3 := Lib.hid (HO2.out _ hb3)
                 have e0 := ecell HO3.out.e 0
                 have e1 := ecell HO3.out.e 1
                 have e2 := ecell HO3.out.e 2
                 have e3 := ecell HO3.out.e 3
                 have e4 := ecell HO3.out.e 4
                 have e5 := ecell HO3.out.e 5
                 have e6 := ecell HO3.out.e 6
                 have e7 := ecell HO3.out.e 7
                 have e8 := ecell HO3.out.e 8
                 have e9 := ecell HO3.out.e 9
                 unfold En.cells at e0 e1 e2 e3 e4 e5 e6 e7 e8 e9
                 dsimp only at e0 e1 e2 e3 e4 e5 e6 e7 e8 e9
                 have HC3 := Lib.hid (HC1.out _ hb3)
                 clear hb3)
              | (go_at_call 33; refine HC3.out.mono ?_; rintro r w4 ⟨rfl, hb4⟩)
              | fail)
            go_roundw
            case rel => exact ⟨k + 1, by have := HX.out; omega, by rw [HX.out.2.1], HMS1, Lib.hid (HO3.out.below hb4)⟩
            case measure => have := HX.out; simp [intOf]; omega
      · obtain ⟨x, hx⟩ : ∃ x, l0 + k = x := ⟨_, rfl⟩
        have hkE : k = ix - l0 := by omega
        have d1 : decide (x < ix) = false := by have := HLL.out; simp; omega
        have d1' : decide ((x : Int) < (ix : Int)) = false := by have := HLL.out; simp; omega
        have HG := Lib.hid (show G = true from HM.out.trans (by rw [← hkE]; exact HFk.out))
        rw [hx]
        clear hx hkE hk hlt
        go_wp2
        go_ret
        rw [HG.out]
        exact ⟨rfl, HO.out.bel⟩
set_option maxHeartbeats 4000000 in
theorem rmay_any (e : En) (L B : Nat) (w : World) (h : e.Reads w) (hL : L < 18446744073709551615) (hB : B < 18446744073709551616) :
    Calls Tryd.prog 13 #[.agg e.cells, .agg #[.int .u64 (L : Int), .int .u64 (B : Int)]] w fun r w' => r = .returned (.bool (e.may L B)) ∧ Below w.heap.size w w' := by
  obtain ⟨W, hW, hE⟩ := eb_new w e L B 37
  have HE := Lib.hid hE
  have HL := Lib.hid hL
  have hix := h.ix
  have HH := Lib.hid (fun W' (hb : Below w.heap.size w W') x (hx : x < 18446744073709551616) => rhas_any L B x W' (by omega) hB hx)
  have HC := Lib.hid (fun W' (hb : Below w.heap.size w W') x (hx : x < 18446744073709551616) => rclash_any e x W' (h.below hb) hx)
  · skip
    obtain ⟨l0, hl0⟩ : ∃ l0, L + 1 = l0 := ⟨_, rfl⟩
    have e0 : IntKind.u64.wrap ((L : Int) + 1) = (l0 : Int) := by rw [u64w _ (by omega) (by omega)]; omega
    have a0 := ecell hE.e 0
    have b0 := cell_of_row W _ 0 _ _ _ hE.m
    have HLL := Lib.hid (And.intro hl0 hix)
    have HM := Lib.hid (show e.may L B = e.mayTo L B (e.ix - l0) by unfold En.may; rw [hl0])
    have HMS := Lib.hid (fun k => e.mayTo_succ L B k)
    have HMN := Lib.hid (fun k m h1 h2 => e.mayTo_no L B k m h1 h2)
    obtain ⟨F, hF⟩ : ∃ F, e.mayTo L B = F := ⟨_, rfl⟩
    rw [hF] at HM HMS HMN
    have HF := Lib.hid (show F 0 = true by rw [← hF]; rfl)
    obtain ⟨G, hG⟩ : ∃ G, e.may L B = G := ⟨_, rfl⟩
    rw [hG] at HM ⊢
    obtain ⟨C, hC⟩ : ∃ C, e.clash = C := ⟨_, rfl⟩
    rw [hC] at HC HMS
    clear h hL hB hl0 hix hF hG hC hE
    obtain ⟨ix, tm, st, kd, cl, rq, fr, ct, da, A, bn, bc, ls⟩ := e
    unfold En.cells at *
    dsimp only at *
    go_enter Tryd.func13, Tryd.ntmps13
    go_upto_region 1 with (fail)
    rw [← hW]
    clear hW
    go_wp2_with (fail)
    go_loopw [5] (fun ir wr => ∃ k : Nat, k ≤ ix - l0 ∧ ir = .int .u64 ((l0 + k : Nat) : Int) ∧ Hid (F k = true) ∧ Hid (EB w wr w.heap.size (w.heap.size + 1) ⟨ix, tm, st, kd, cl, rq, fr, ct, da, A, bn, bc, ls⟩ L B 37)) (fun ir _ => ix + 1 - (intOf ir).toNat)
    case atStart => exact ⟨0, Nat.zero_le _, rfl, HF, HE⟩
    case round =>
      clear a0 b0
      obtain ⟨k, hk, rfl, HFk, HO⟩ := hrel
      have a0 := ecell HO.out.e 0
      have a1 := ecell HO.out.e 1
      have a2 := ecell HO.out.e 2
      have a3 := ecell HO.out.e 3
      have a4 := ecell HO.out.e 4
      have a5 := ecell HO.out.e 5
      have a6 := ecell HO.out.e 6
      have a7 := ecell HO.out.e 7
      have a8 := ecell HO.out.e 8
      have a9 := ecell HO.out.e 9
      unfold En.cells at a0 a1 a2 a3 a4 a5 a6 a7 a8 a9
      dsimp only at a0 a1 a2 a3 a4 a5 a6 a7 a8 a9
      have b0 := cell_of_row wr _ 0 _ _ _ HO.out.m
      have b1 := cell_of_row wr _ 1 _ _ _ HO.out.m
      by_cases hlt : k < ix - l0
      · obtain ⟨x, hx⟩ : ∃ x, l0 + k = x := ⟨_, rfl⟩
        obtain ⟨x', hx'⟩ : ∃ x', l0 + (k + 1) = x' := ⟨_, rfl⟩
        have hx64 : x < 18446744073709551615 := by have := HLL.out; omega
        have d1 : decide (x < ix) = true := by simp; omega
        have d1' : decide ((x : Int) < (ix : Int)) = true := by simp; omega
        have ew : IntKind.u64.wrap ((x : Int) + 1) = (x' : Int) := by rw [u64w _ (by omega) (by omega)]; omega
        have hms := HMS.out k
        rw [HFk.out, Bool.true_and, show L + 1 + k = x by have := HLL.out; omega] at hms
        have hcon := HMN.out (k + 1) (ix - l0)
        have hme : ((x : Int)).toNat = x := rfl
        have hme2 : ((x' : Int)).toNat = x' := rfl
        have HX := Lib.hid (And.intro hx (And.intro hx' hlt))
        have HH1 := Lib.hid (HH.out wr HO.out.bel x (by omega))
        have HC1 := Lib.hid (fun W' (hb : Below wr.heap.size wr W') => HC.out W' (HO.out.bel.trans (hb.mono HO.out.bel.size)) x (by omega))
        have HO2 := Lib.hid (fun W' (hb : Below wr.heap.size wr W') => HO.out.below hb)
        rw [hx]
        clear hx hx' hx64 hlt
        cases hs : Hs L B x with
        | true =>
          rw [hs] at HH1
          rw [hs, Bool.true_or] at hms
          have HMS1 := Lib.hid hms
          clear hs hms hcon
          go_wp2_with (first
            | (go_at_call 28; refine HH1.out.mono ?_; rintro r w3 ⟨rfl, hb3⟩)
            | fail)
          go_roundw
          case rel => exact ⟨k + 1, by have := HX.out; omega, by rw [HX.out.2.1], HMS1, Lib.hid (HO2.out _ hb3)⟩
          case measure => have := HX.out; simp [intOf]; omega
        | false =>
          rw [hs] at HH1
          rw [hs, Bool.false_or] at hms
          cases hc : C x with
          | true =>
            rw [hc] at HC1
            rw [hc] at hms
            have HG := Lib.hid (show G = false from HM.out.trans (hcon hms (by have := HX.out; omega)))
            clear hs hms hcon hc
            go_wp2_with (first
              | (go_at_call 28; refine HH1.out.mono ?_; rintro r w3 ⟨rfl, hb3⟩
                 have HO3 := Lib.hid (HO2.out _ hb3)
                 have e0 := ecell HO3.out.e 0
                 have e1 := ecell HO3.out.e 1
                 have e2 := ecell HO3.out.e 2
                 have e3 := ecell HO3.out.e 3
                 have e4 := ecell HO3.out.e 4
                 have e5 := ecell HO3.out.e 5
                 have e6 := ecell HO3.out.e 6
                 have e7 := ecell HO3.out.e 7
                 have e8 := ecell HO3.out.e 8
                 have e9 := ecell HO3.out.e 9
                 unfold En.cells at e0 e1 e2 e3 e4 e5 e6 e7 e8 e9
                 dsimp only at e0 e1 e2 e3 e4 e5 e6 e7 e8 e9
                 have HC3 := Lib.hid (HC1.out _ hb3)
                 clear hb3)
              | (go_at_call 34; refine HC3.out.mono ?_; rintro r w4 ⟨rfl, hb4⟩)
              | fail)
            go_ret
            rw [HG.out]
            exact ⟨rfl, (HO3.out.below hb4).bel⟩
          | false =>
            rw [hc] at HC1
            rw [hc] at hms
            have HMS1 := Lib.hid hms
            clear hs hms hcon hc
            go_wp2_with (first
              | (go_at_call 28; refine HH1.out.mono ?_; rintro r w3 ⟨rfl, hb3⟩
                 have HO3 := Lib.hid (HO2.out _ hb3)
                 have e0 := ecell HO3.out.e 0
                 have e1 := ecell HO3.out.e 1
                 have e2 := ecell HO3.out.e 2
                 have e3 := ecell HO3.out.e 3
                 have e4 := ecell HO3.out.e 4
                 have e5 := ecell HO3.out.e 5
                 have e6 := ecell HO3.out.e 6
                 have e7 := ecell HO3.out.e 7
                 have e8 := ecell HO3.out.e 8
                 have e9 := ecell HO3.out.e 9
                 unfold En.cells at e0 e1 e2 e3 e4 e5 e6 e7 e8 e9
                 dsimp only at e0 e1 e2 e3 e4 e5 e6 e7 e8 e9
                 have HC3 := Lib.hid (HC1.out _ hb3)
                 clear hb3)
              | (go_at_call 34; refine HC3.out.mono ?_; rintro r w4 ⟨rfl, hb4⟩)
              | fail)
            go_roundw
            case rel => exact ⟨k + 1, by have := HX.out; omega, by rw [HX.out.2.1], HMS1, Lib.hid (HO3.out.below hb4)⟩
            case measure => have := HX.out; simp [intOf]; omega
      · obtain ⟨x, hx⟩ : ∃ x, l0 + k = x := ⟨_, rfl⟩
        have hkE : k = ix - l0 := by omega
        have d1 : decide (x < ix) = false := by have := HLL.out; simp; omega
        have d1' : decide ((x : Int) < (ix : Int)) = false := by have := HLL.out; simp; omega
        have HG := Lib.hid (show G = true from HM.out.trans (by rw [← hkE]; exact HFk.out))
        rw [hx]
        clear hx hkE hk hlt
        go_wp2
        go_ret
        rw [HG.out]
        exact ⟨rfl, HO.out.bel⟩
end Go.Proofs.YtgejmeankppmhaaDoor.Bh

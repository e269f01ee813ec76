/- What a majority has at least, by definition, is the middle one of what is sorted. The reference's Majority; the same numbers. What the arguments of a law are, read as data: pairs whose numbers fit. -/
import Derived.Test.YtjhakplaffgkpaaDoorQzM
import Derived.Test.YtjhakplaffgkpaaDoorQtM
import Derived.Test.YtjhakplaffgkpaaDoorQcM
namespace Go.Proofs.YtjhakplaffgkpaaDoor.Qu
open Go.RowKit

def cge (L : List Nat) (y : Nat) : Nat := L.countP fun z => decide (y ≤ z)
def best1 (L : List Nat) (b y : Nat) : Nat := if L.length < 2 * cge L y then max b y else b
def bestOf (L l : List Nat) : Nat := l.foldl (best1 L) 0
def srt64 (l : List Nat) : List Nat := l.mergeSort fun x y => !ltN y x
def S64 (d : Array Nat) : Array Nat := (srt64 d.toList).toArray
theorem srt_perm (l : List Nat) : (srt64 l).Perm l := List.mergeSort_perm _ _
theorem srt_len (l : List Nat) : (srt64 l).length = l.length := (srt_perm l).length_eq
theorem srt_pair (l : List Nat) : (srt64 l).Pairwise fun x y => x ≤ y := by
  have := List.pairwise_mergeSort (le := fun x y => !ltN y x) (fun a b c => by unfold ltN; simp; omega) (fun a b => by unfold ltN; simp; omega) l
  refine this.imp ?_
  intro x y h
  unfold ltN at h
  simp at h
  exact h
theorem S64_size (d : Array Nat) : (S64 d).size = d.size := by
  unfold S64
  rw [List.size_toArray, srt_len, Array.length_toList]
section
variable {L : List Nat}
theorem count_all {M : List Nat} (y : Nat) (h : ∀ z ∈ M, y ≤ z) : cge M y = M.length := by
  unfold cge
  rw [List.countP_eq_length]
  intro z hz
  simpa using h z hz
theorem count_none {M : List Nat} (y : Nat) (h : ∀ z ∈ M, z < y) : cge M y = 0 := by
  unfold cge
  rw [List.countP_eq_zero]
  intro z hz
  have := h z hz
  simp
  omega
theorem cge_split (M : List Nat) (k y : Nat) : cge M y = cge (M.take k) y + cge (M.drop k) y := by
  unfold cge
  rw [← List.countP_append, List.take_append_drop]
theorem cge_perm {M : List Nat} (h : M.Perm L) (y : Nat) : cge M y = cge L y := h.countP_eq _
theorem cge_le (M : List Nat) (y : Nat) : cge M y ≤ M.length := List.countP_le_length
theorem mid_yes {M : List Nat} (hs : M.Pairwise fun x y => x ≤ y) {h : Nat} (hh : h < M.length) : M.length - h ≤ cge M M[h] := by
  rw [cge_split M h]
  have e : cge (M.drop h) M[h] = (M.drop h).length := count_all _ (fun z hz => by
    obtain ⟨j, hj, rfl⟩ := List.mem_iff_getElem.1 hz
    rw [List.getElem_drop]
    rw [List.length_drop] at hj
    rcases Nat.eq_zero_or_pos j with h0 | h0
    · subst h0; exact Nat.le_refl _
    · exact List.pairwise_iff_getElem.1 hs h (h + j) hh (by omega) (by omega))
  rw [e, List.length_drop]
  omega
theorem mid_no {M : List Nat} (hs : M.Pairwise fun x y => x ≤ y) {h y : Nat} (hh : h < M.length) (hy : M[h] < y) : cge M y ≤ M.length - (h + 1) := by
  rw [cge_split M (h + 1)]
  have e : cge (M.take (h + 1)) y = 0 := count_none _ (fun z hz => by
    obtain ⟨j, hj, rfl⟩ := List.mem_iff_getElem.1 hz
    rw [List.length_take] at hj
    rw [List.getElem_take]
    rcases Nat.lt_or_ge j h with h0 | h0
    · have := List.pairwise_iff_getElem.1 hs j h (by omega) hh h0
      omega
    · have : j = h := by omega
      subst this
      exact hy)
  have := cge_le (M.drop (h + 1)) y
  rw [List.length_drop] at this
  omega
theorem best_ge (l : List Nat) (b : Nat) : b ≤ l.foldl (best1 L) b := by
  induction l generalizing b with
  | nil => exact Nat.le_refl _
  | cons y l ih =>
    refine Nat.le_trans ?_ (ih _)
    unfold best1
    split
    · exact Nat.le_max_left _ _
    · exact Nat.le_refl _
theorem best_in (l : List Nat) (b x : Nat) (hx : x ∈ l) (hq : L.length < 2 * cge L x) : x ≤ l.foldl (best1 L) b := by
  induction l generalizing b with
  | nil => cases hx
  | cons y l ih =>
    rcases List.mem_cons.1 hx with rfl | hx
    · refine Nat.le_trans ?_ (best_ge l _)
      unfold best1
      rw [if_pos hq]
      exact Nat.le_max_right _ _
    · exact ih _ hx
theorem best_le (l : List Nat) (b x : Nat) (hb : b ≤ x) (h : ∀ y ∈ l, L.length < 2 * cge L y → y ≤ x) : l.foldl (best1 L) b ≤ x := by
  induction l generalizing b with
  | nil => exact hb
  | cons y l ih =>
    refine ih _ ?_ (fun z hz => h z (List.mem_cons_of_mem _ hz))
    unfold best1
    split
    · next hq => exact Nat.max_le.2 ⟨hb, h y List.mem_cons_self hq⟩
    · exact hb
end
theorem sort64_any {w : World} {g n c : Nat} {d : Array Nat} (h : Arr w g d) (hd : d.size = n) (hn : n ≤ 199) :
    Calls Tryd.prog 41 #[.slice (some ⟨g, 0, none⟩) n c] w (Sorted w g (S64 d)) := by
  refine sort_of hn fun l hl => ?_
  refine (pdq_any (c := c) hn n w d 0 n l (Nat.sub_le _ _) (Nat.zero_le _) (Nat.le_refl _) hl h hd (.inl rfl)).mono fun e w' hp => ?_
  obtain ⟨R, he, ha, hp, hs, ht⟩ := hp
  have hu := Go.Sort.sorted_unique_holds (lt := ltN) swoN (fun x y h1 h2 => by unfold ltN at h1 h2; simp at h1 h2; omega) d R (by rw [hd]; exact hp) (by rw [hd]; exact hs)
  have e2 : R = S64 d := by
    unfold S64 srt64
    rw [← hu]
  exact ⟨he, e2 ▸ ha, ht⟩
end Go.Proofs.YtjhakplaffgkpaaDoor.Qu

namespace Go.Proofs.YtjhakplaffgkpaaDoor.Qu
open Go.RowKit
set_option maxRecDepth 20000

def cin (a : Nat) (l : List Int) : Nat := l.countP (inB a)
theorem cin_snoc (a : Nat) (l : List Int) (x : Int) : cin a (l ++ [x]) = cin a l + if inB a x = true then 1 else 0 := by
  unfold cin; rw [List.countP_append, List.countP_singleton]
theorem cin_le (a : Nat) (l : List Int) : cin a l ≤ l.length := List.countP_le_length
theorem cin_all (a b : Nat) : cin a (mem_ b 64) = (memb b).countP a.testBit := by
  rw [mem_64]
  unfold cin
  rw [List.countP_map]
  apply List.countP_congr
  intro i hi
  have := memb_lt hi
  simp only [Function.comp]
  rw [inB_nat a i this]
theorem mem_len64 (b : Nat) : (mem_ b 64).length = pop 64 b := by rw [mem_64, List.length_map, memb_len]
theorem rmaj_any (a b : Nat) (w : World) (ha : a < 18446744073709551616) (hb : b < 18446744073709551616) :
    Calls Tryd.prog 32 #[.int .u64 (a : Int), .int .u64 (b : Int)] w fun e w' => e = .returned (.bool (majB a b)) ∧ Below w.heap.size w w' := by
  have hA := fun W n => rhas_any a n W ha
  have HM := Lib.hid (rmembers_any b w hb)
  have HR := Lib.hid (show decide ((mem_ b 64).length < 2 * cin a (mem_ b 64)) = majB a b by rw [cin_all, ← ref_maj, mem_64, List.length_map])
  have hl64 : (mem_ b 64).length ≤ 64 := mem_len b 64
  clear ha hb
  generalize mem_ b 64 = l at *
  generalize majB a b = m at *
  go_enter Tryd.func32, Tryd.ntmps32
  go_wp2_with (go_at_call 43; refine HM.out.mono ?_; clear HM; rintro e w1 ⟨A, c, rfl, hown, hbel⟩)
  have H1 := Lib.hid (fun i (hi : i < l.length) => (ownsRow_rd hown).at_ hi)
  have HB := Lib.hid hbel
  obtain ⟨n, hn⟩ : ∃ n, n = l.length := ⟨_, rfl⟩
  rw [← hn] at H1 hl64 ⊢
  have HN := Lib.hid hn
  clear hown hbel hn
  go_loop [5, 7] (fun sr ir => ∃ i : Nat, i ≤ n ∧ ir = .int .i64 (i : Int) ∧ sr = .int .i64 ((cin a (l.take i) : Nat) : Int)) (fun _ ir => n - (intOf ir).toNat)
  case atStart => exact ⟨0, Nat.zero_le _, rfl, rfl⟩
  case round =>
    obtain ⟨i, hi, rfl, rfl⟩ := hrel
    have hle : cin a (l.take i) ≤ 64 := by have := cin_le a (l.take i); rw [List.length_take] at this; omega
    by_cases hlt : i < n
    · obtain ⟨p1, o1, v1, rfl, hp1, hv1, hc1⟩ := H1.out i hlt
      obtain ⟨y, hy, rfl⟩ : ∃ y, l[i]? = some y ∧ v1 = .int .i64 y := by
        unfold is at hv1
        rw [List.getElem?_map] at hv1
        cases hx : l[i]? with
        | none => rw [hx] at hv1; cases hv1
        | some x => rw [hx] at hv1; exact ⟨x, rfl, (Option.some.inj hv1).symm⟩
      have hst : cin a (l.take (i + 1)) = cin a (l.take i) + if inB a y = true then 1 else 0 := by
        obtain ⟨hil, rfl⟩ := List.getElem?_eq_some_iff.1 hy
        rw [List.take_succ_eq_append_getElem hil, cin_snoc]
      have HST := Lib.hid hst
      have hA := fun W => hA W y
      have d1 : decide (i < n) = true := by simpa using hlt
      clear hv1 hp1 hy hst
      generalize cin a (l.take i) = q at *
      cases hb : inB a y
      · rw [hb] at hA HST
        clear hb
        go_wp2_with (go_at_call 44; (with_reducible refine (hA _).mono ?_); rintro e w3 ⟨rfl, rfl⟩)
        go_round
        case rel => exact ⟨i + 1, by omega, by go_num, by rw [HST.out]; rfl⟩
        case measure => simp [intOf]; omega
      · rw [hb] at hA HST
        clear hb
        go_wp2_with (go_at_call 44; (with_reducible refine (hA _).mono ?_); rintro e w3 ⟨rfl, rfl⟩)
        go_round
        case rel => exact ⟨i + 1, by omega, by go_num, by rw [HST.out]; simp⟩
        case measure => simp [intOf]; omega
    · obtain rfl : i = n := by omega
      have hT : l.take i = l := List.take_of_length_le (by have := HN.out; omega)
      rw [hT] at hle ⊢
      have HR2 := Lib.hid (show decide (i < 2 * cin a l) = m by rw [HN.out]; exact HR.out)
      clear HR hT hlt
      generalize cin a l = q at *
      have d1 : decide (i < i) = false := by simp
      by_cases hq : i < 2 * q
      · have d2 : decide (i < 2 * q) = true := by simpa using hq
        go_wp2
        go_ret
        exact ⟨ret_bool (by rw [← HR2.out, d2]; simp; omega), HB.out⟩
      · have d2 : decide (i < 2 * q) = false := by simpa using hq
        go_wp2
        go_ret
        exact ⟨ret_bool (by rw [← HR2.out, d2]; simp; omega), HB.out⟩
end Go.Proofs.YtjhakplaffgkpaaDoor.Qu

namespace Go.Proofs.YtjhakplaffgkpaaDoor
open Go.ChangeShapes Go.WideShapes Go.ChangeAt Go.RowKit
open Go.Deep (oneCellFields open_slice hone_of)

section
variable {H : Type} {enc : TypeId × Value → H} {P : Program} {W : World} {r : Reach} {b0 : Nat} {t e : TypeId} {v : Value} {d : DataW H} {p : List MemPlace}

theorem dec_pairs2 {f0 f1 : Field} (ht : P.underlying t = some (.slice e)) (hs : P.underlying e = some (.struct #[f0, f1])) (hone : oneCellFields P #[f0, f1] = true) (hC : P.cellsOf e = 2) (h0 : P.underlying f0.type = some (.int .i64)) (h1 : P.underlying f1.type = some (.int .i64))
    (hok : Value.okWide P W r b0 t v) (h : DataW.Trod enc P W 0 (fun _ => true) true t v d p) :
    ∃ (A : Option Addr) (n c : Nat) (ps : List (Int × Int)), v = .slice A n c ∧ Rd W W.heap.size 2 A n c (pairs ps) ∧ ps.length = n ∧ ∀ p ∈ ps, (Lit.int .i64 p.2).wf = true := by
  obtain ⟨A, n, c, rfl⟩ := okWide_slice ht hok
  obtain ⟨fuel, hf⟩ := h
  rcases open_slice ht hf with ⟨hcs, _⟩ | ⟨x, l, c', m, k, D, Pl, hcs, _, hl, hm, hmm, _, hi⟩
  · simp [Value.cells] at hcs
    obtain ⟨rfl, rfl, rfl⟩ := hcs
    exact ⟨_, _, _, [], rfl, Rd.nil_, rfl, fun _ h => by cases h⟩
  · simp [Value.cells] at hcs
    obtain ⟨rfl, rfl, rfl⟩ := hcs
    simp only [if_true] at hmm
    rw [hC] at hi
    have each : ∀ i, ∃ q : Int × Int, (i < n → W.cell? (x.add (i * 2)) = some (.int .i64 q.1) ∧ W.cell? (x.add (i * 2 + 1)) = some (.int .i64 q.2)) ∧ (Lit.int .i64 q.2).wf = true := by
      intro i
      by_cases hin : i < n
      · obtain ⟨cs', hc, ht'⟩ := hi i (by omega)
        obtain ⟨ys, n', _, _, hlen, hyl, hfl⟩ := DataW.trod_struct hs ht'
        obtain ⟨_, hcl, hat⟩ := World.cells?_some hc
        obtain ⟨o0, k0⟩ := hone_of hone 0 f0 rfl
        obtain ⟨o1, k1⟩ := hone_of hone 1 f1 rfl
        match cs', hcl with
        | [u0, u1], _ =>
          match ys, hyl with
          | [y0, y1], _ =>
            have g0 := hfl 0 f0 rfl
            have g1 := hfl 1 f1 rfl
            rw [o0, k0] at g0
            rw [o1, k1] at g1
            obtain ⟨a, ha, _, _⟩ := DataW.trod_int h0 g0
            obtain ⟨b, hb, _, hwb⟩ := DataW.trod_int h1 g1
            cases ha
            cases hb
            have c0 := hat 0 (by decide)
            have c1 := hat 1 (by decide)
            refine ⟨(a, b), fun _ => ⟨?_, ?_⟩, hwb⟩
            · simpa [Addr.add] using c0
            · rw [← Go.Deep.add_add]; exact c1
      · exact ⟨(0, 0), fun h => absurd h hin, by decide⟩
    obtain ⟨g, hg⟩ := Classical.axiomOfChoice each
    refine ⟨_, n, c, (List.range n).map g, rfl, ⟨hl, hm, by rw [pairs_len]; simp, fun hn => ?_⟩, by simp, fun p hp => by obtain ⟨i, _, rfl⟩ := List.mem_map.1 hp; exact (hg i).2⟩
    obtain ⟨b, off, spot⟩ := x
    have hc0 := ((hg 0).1 hn).1
    have hspot : spot = none := by simpa [Addr.add] using World.cell?_spot hc0
    subst hspot
    refine ⟨b, off, rfl, ?_, fun j u hu => ?_⟩
    · have := World.block_lt_of_cell? W _ hc0
      simpa [addOff] using this
    · have hj : j < (pairs ((List.range n).map g)).length := (List.getElem?_eq_some_iff.1 hu).1
      rw [pairs_len] at hj
      simp only [List.length_map, List.length_range] at hj
      have hp := pairs_get ((List.range n).map g) (j / 2) (g (j / 2)) (by simp [show j / 2 < n by omega])
      have hq := (hg (j / 2)).1 (by omega)
      rcases Nat.mod_two_eq_zero_or_one j with hm2 | hm2
      · rw [show j / 2 * 2 = j by omega] at hp hq
        rw [hp.1] at hu
        rw [← addOff, hq.1, hu]
      · rw [show j / 2 * 2 + 1 = j by omega] at hp hq
        rw [hp.2] at hu
        rw [← addOff, hq.2, hu]
end

end Go.Proofs.YtjhakplaffgkpaaDoor

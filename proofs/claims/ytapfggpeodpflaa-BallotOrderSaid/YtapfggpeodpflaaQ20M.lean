/- slices.Sort as far as twelve numbers; what is told of nodes; the chapter's example. What a majority has at least, by definition, is the middle one of what is sorted; few numbers sorted. -/
import Derived.Test.YtapfggpeodpflaaQdM
import Derived.Sort.LotA
namespace Go.Proofs.Ytapfggpeodpflaa.Qu
open Go.RowKit
open Go.Sort (insertionSort)

theorem tab_val (i : Int) (h0 : 0 ≤ i) (h1 : i < 256) (h : i.toNat < Lib.len8tab.size) : (((Lib.len8tab[i.toNat]'h).toNat : Nat) : Int) = ((Lib.bitLen i.toNat : Nat) : Int) := by
  rw [← Lib.len8_of i h0 (by omega)]
  unfold Lib.len8
  rw [ByteArray.getElem?_lt' _ _ h]
  rfl
theorem tab_fin (k b : Nat) (x : Int) (h : b ≤ 8) (hk : k ≤ 56) (e : ((k + b : Nat) : Int) = x) : wrap64 ((k : Int) + wrap64 (b : Int)) = x := by
  rw [← e]
  unfold wrap64
  omega
set_option maxHeartbeats 1000000 in
set_option maxRecDepth 100000 in
theorem len_small (x : Int) (w : World) (h0 : 0 ≤ x) (h1 : x ≤ 199) :
    Calls Try.prog 65 #[.int .u64 x] w fun e w' => e = .returned (.int .i64 (Lib.bitLen x.toNat : Int)) ∧ w = w' := by
  have t9 := Try.underlying9
  go_enter Try.func65, Try.ntmps65
  go_wp2
  all_goals (first | (exfalso; rw [Lib.len8tab_size] at *; omega) | (go_ret; refine ⟨congrArg Ending.returned (congrArg (Value.int IntKind.i64) ?_), rfl⟩))
  rw [tab_val x (by omega) (by omega)]
  have l := Lib.bitLen_le8' x (by omega) (by omega)
  unfold wrap64
  omega
theorem len_any (n : Nat) (w : World) (h : n ≤ 199) :
    Calls Try.prog 49 #[.int .u64 (n : Int)] w fun e w' => e = .returned (.int .i64 (Lib.bitLen n : Int)) ∧ w = w' := by
  have hA := len_small (n : Int) w (by omega) (by omega)
  rw [Int.toNat_natCast] at hA
  generalize Lib.bitLen n = l at *
  go_enter Try.func49, Try.ntmps49
  go_wp2_with (go_at_call 65; (with_reducible refine hA.mono ?_); rintro e w' ⟨rfl, rfl⟩)
  go_ret
  exact ⟨rfl, rfl⟩
/-- What a sort leaves. -/
def Sorted (w : World) (g : Nat) (D : Array Nat) (e : Ending) (w' : World) : Prop := e = .returned (.tuple #[]) ∧ Arr w' g D ∧ Trn w g w'
theorem pdq_few {w : World} {g n c : Nat} {d : Array Nat} (l : Int) (h : Arr w g d) (hd : d.size = n) (hn : n ≤ 12) :
    Calls Try.prog 48 #[.slice (some ⟨g, 0, none⟩) n c, .int .i64 0, .int .i64 (n : Int), .int .i64 l] w (Sorted w g (insertionSort ltN d 0 n)) := by
  have hI := Lib.hid (ins_any (c := c) 0 n h hd (Nat.zero_le _) (Nat.le_refl _) (by omega))
  generalize insertionSort ltN d 0 n = D at *
  have hn12 : (n : Int) ≤ 12 := by omega
  have hn0 : 0 ≤ (n : Int) := by omega
  have d1 : decide (n ≤ 12) = true := by simpa using hn
  clear h hd hn
  set_option maxRecDepth 100000 in
  go_enter Try.func48, Try.ntmps48
  go_wp2
  refine wp_loop_rounds 1 ?_
  rw [rounds_succ]
  go_wp2_with (go_at_call 55; refine hI.out.mono ?_; rintro e w' ⟨rfl, hq⟩)
  (try simp only [Exit.inBlock, Exit.then]); refine bodyPost_ret (results_none rfl _ _ _) rfl ?_
  exact ⟨rfl, hq⟩
theorem sort_of {w : World} {g n c : Nat} {D : Array Nat} (hn : n ≤ 199) (hp : ∀ l : Nat, l ≤ 8 → Calls Try.prog 48 #[.slice (some ⟨g, 0, none⟩) n c, .int .i64 0, .int .i64 (n : Int), .int .i64 (l : Int)] w (Sorted w g D)) :
    Calls Try.prog 36 #[.slice (some ⟨g, 0, none⟩) n c] w (Sorted w g D) := by
  have hL := fun W => len_any n W hn
  have hl8 := Lib.bitLen_le8' (n : Int) (by omega) (by omega)
  rw [Int.toNat_natCast] at hl8
  have hp := Lib.hid (hp _ hl8)
  generalize Lib.bitLen n = l at *
  have hn1 : (n : Int) ≤ 199 := by omega
  have hn0 : 0 ≤ (n : Int) := by omega
  clear hn hl8
  go_enter Try.func36, Try.ntmps36
  go_wp2_with (first
    | (go_at_call 49; (with_reducible refine (hL _).mono ?_); rintro e w' ⟨rfl, rfl⟩)
    | (go_at_call 48; refine hp.out.mono ?_; rintro e w' ⟨rfl, hq⟩)
    | fail)
  go_end0
  exact ⟨rfl, hq⟩
end Go.Proofs.Ytapfggpeodpflaa.Qu

namespace Go.Proofs.Ytapfggpeodpflaa.Qu
open Go.RowKit
open Go.Sort (insertionSort)

def cge (L : List Nat) (y : Nat) : Nat := L.countP fun z => decide (y ≤ z)
def best1 (L : List Nat) (b y : Nat) : Nat := if L.length < 2 * cge L y then max b y else b
def bestOf (L l : List Nat) : Nat := l.foldl (best1 L) 0
def srt64 (l : List Nat) : List Nat := l.mergeSort fun x y => !ltN y x
def S64 (d : Array Nat) : Array Nat := (srt64 d.toList).toArray
theorem srt_perm (l : List Nat) : (srt64 l).Perm l := List.mergeSort_perm _ _
theorem srt_len (l : List Nat) : (srt64 l).length = l.length := (srt_perm l).length_eq
theorem srt_pair (l : List Nat) : (srt64 l).Pairwise fun x y => x ≤ y := by
  have := List.pairwise_mergeSort (le := fun x y => !ltN y x) (fun a b c => by unfold ltN; simp; omega) (fun a b => by unfold ltN; simp; omega) l
  refine this.imp ?_
  intro x y h
  unfold ltN at h
  simp at h
  exact h
theorem S64_size (d : Array Nat) : (S64 d).size = d.size := by
  unfold S64
  rw [List.size_toArray, srt_len, Array.length_toList]
section
variable {L : List Nat}
theorem count_all {M : List Nat} (y : Nat) (h : ∀ z ∈ M, y ≤ z) : cge M y = M.length := by
  unfold cge
  rw [List.countP_eq_length]
  intro z hz
  simpa using h z hz
theorem count_none {M : List Nat} (y : Nat) (h : ∀ z ∈ M, z < y) : cge M y = 0 := by
  unfold cge
  rw [List.countP_eq_zero]
  intro z hz
  have := h z hz
  simp
  omega
theorem cge_split (M : List Nat) (k y : Nat) : cge M y = cge (M.take k) y + cge (M.drop k) y := by
  unfold cge
  rw [← List.countP_append, List.take_append_drop]
theorem cge_perm {M : List Nat} (h : M.Perm L) (y : Nat) : cge M y = cge L y := h.countP_eq _
theorem cge_le (M : List Nat) (y : Nat) : cge M y ≤ M.length := List.countP_le_length
theorem mid_yes {M : List Nat} (hs : M.Pairwise fun x y => x ≤ y) {h : Nat} (hh : h < M.length) : M.length - h ≤ cge M M[h] := by
  rw [cge_split M h]
  have e : cge (M.drop h) M[h] = (M.drop h).length := count_all _ (fun z hz => by
    obtain ⟨j, hj, rfl⟩ := List.mem_iff_getElem.1 hz
    rw [List.getElem_drop]
    rw [List.length_drop] at hj
    rcases Nat.eq_zero_or_pos j with h0 | h0
    · subst h0; exact Nat.le_refl _
    · exact List.pairwise_iff_getElem.1 hs h (h + j) hh (by omega) (by omega))
  rw [e, List.length_drop]
  omega
theorem mid_no {M : List Nat} (hs : M.Pairwise fun x y => x ≤ y) {h y : Nat} (hh : h < M.length) (hy : M[h] < y) : cge M y ≤ M.length - (h + 1) := by
  rw [cge_split M (h + 1)]
  have e : cge (M.take (h + 1)) y = 0 := count_none _ (fun z hz => by
    obtain ⟨j, hj, rfl⟩ := List.mem_iff_getElem.1 hz
    rw [List.length_take] at hj
    rw [List.getElem_take]
    rcases Nat.lt_or_ge j h with h0 | h0
    · have := List.pairwise_iff_getElem.1 hs j h (by omega) hh h0
      omega
    · have : j = h := by omega
      subst this
      exact hy)
  have := cge_le (M.drop (h + 1)) y
  rw [List.length_drop] at this
  omega
theorem best_ge (l : List Nat) (b : Nat) : b ≤ l.foldl (best1 L) b := by
  induction l generalizing b with
  | nil => exact Nat.le_refl _
  | cons y l ih =>
    refine Nat.le_trans ?_ (ih _)
    unfold best1
    split
    · exact Nat.le_max_left _ _
    · exact Nat.le_refl _
theorem best_in (l : List Nat) (b x : Nat) (hx : x ∈ l) (hq : L.length < 2 * cge L x) : x ≤ l.foldl (best1 L) b := by
  induction l generalizing b with
  | nil => cases hx
  | cons y l ih =>
    rcases List.mem_cons.1 hx with rfl | hx
    · refine Nat.le_trans ?_ (best_ge l _)
      unfold best1
      rw [if_pos hq]
      exact Nat.le_max_right _ _
    · exact ih _ hx
theorem best_le (l : List Nat) (b x : Nat) (hb : b ≤ x) (h : ∀ y ∈ l, L.length < 2 * cge L y → y ≤ x) : l.foldl (best1 L) b ≤ x := by
  induction l generalizing b with
  | nil => exact hb
  | cons y l ih =>
    refine ih _ ?_ (fun z hz => h z (List.mem_cons_of_mem _ hz))
    unfold best1
    split
    · next hq => exact Nat.max_le.2 ⟨hb, h y List.mem_cons_self hq⟩
    · exact hb
end
theorem swoN : Go.Sort.SWO ltN := ⟨fun x => by unfold ltN; simp, fun x y z h1 h2 => by unfold ltN at *; simp at *; omega, fun x y z h1 h2 => by unfold ltN at *; simp at *; omega⟩
def S20 (d : Array Nat) : Array Nat := insertionSort ltN d 0 d.size
theorem outerN_size (lt : Nat → Nat → Bool) (a b : Nat) : ∀ (m i : Nat) (d : Array Nat), b - i ≤ m → (Go.Sort.insOuter lt a b i d).size = d.size
  | 0, i, d, h => by rw [outer_end (by omega)]
  | m + 1, i, d, h => by
    by_cases hi : i < b
    · rw [outer_step hi, outerN_size lt a b m (i + 1) _ (by omega), inner_size]
    · rw [outer_end hi]
theorem S20_size (d : Array Nat) : (S20 d).size = d.size := outerN_size _ _ _ _ _ _ (Nat.le_refl _)
theorem S20_eq (d : Array Nat) : S20 d = S64 d := by
  have h := Go.Sort.insertionSort_holds (lt := ltN) swoN d 0 d.size (Nat.zero_le _) (Nat.le_refl _)
  have hu := Go.Sort.sorted_unique_holds (lt := ltN) swoN (fun x y h1 h2 => by unfold ltN at h1 h2; simp at h1 h2; omega) d (S20 d) h.1 h.2
  unfold S64 srt64
  rw [← hu]
theorem S20_fun : S20 = S64 := funext S20_eq
theorem sort20_any {w : World} {g n c : Nat} {d : Array Nat} (h : Arr w g d) (hd : d.size = n) (hn : n ≤ 12) :
    Calls Try.prog 36 #[.slice (some ⟨g, 0, none⟩) n c] w (Sorted w g (S20 d)) := by
  refine sort_of (by omega) fun l _ => ?_
  unfold S20
  rw [hd]
  exact pdq_few l h hd hn
end Go.Proofs.Ytapfggpeodpflaa.Qu

/- What a majority has at least, by definition, is the middle one of what is sorted; few numbers sorted. What an iterator gives, collected and sorted: AppendSeq, Collect, Sorted. -/
import Derived.Test.YtapfggpeodpflaaQtM
import Derived.Sort.LotA
import Derived.Test.YtapfggpeodpflaaBkeysM
import Derived.RangeFuncCalls
import Derived.RangeFuncLeaves
import Derived.Shelf.Abstract
import Derived.Shelf.RegionOpen
import Derived.Sort.QuietIn
namespace Go.Proofs.Ytapfggpeodpflaa.Qu
open Go.RowKit
open Go.Sort (insertionSort)

def cge (L : List Nat) (y : Nat) : Nat := L.countP fun z => decide (y ≤ z)
def best1 (L : List Nat) (b y : Nat) : Nat := if L.length < 2 * cge L y then max b y else b
def bestOf (L l : List Nat) : Nat := l.foldl (best1 L) 0
def srt64 (l : List Nat) : List Nat := l.mergeSort fun x y => !ltN y x
def S64 (d : Array Nat) : Array Nat := (srt64 d.toList).toArray
theorem srt_perm (l : List Nat) : (srt64 l).Perm l := List.mergeSort_perm _ _
theorem srt_len (l : List Nat) : (srt64 l).length = l.length := (srt_perm l).length_eq
theorem srt_pair (l : List Nat) : (srt64 l).Pairwise fun x y => x ≤ y := by
  have := List.pairwise_mergeSort (le := fun x y => !ltN y x) (fun a b c => by unfold ltN; simp; omega) (fun a b => by unfold ltN; simp; omega) l
  refine this.imp ?_
  intro x y h
  unfold ltN at h
  simp at h
  exact h
theorem S64_size (d : Array Nat) : (S64 d).size = d.size := by
  unfold S64
  rw [List.size_toArray, srt_len, Array.length_toList]
section
variable {L : List Nat}
theorem count_all {M : List Nat} (y : Nat) (h : ∀ z ∈ M, y ≤ z) : cge M y = M.length := by
  unfold cge
  rw [List.countP_eq_length]
  intro z hz
  simpa using h z hz
theorem count_none {M : List Nat} (y : Nat) (h : ∀ z ∈ M, z < y) : cge M y = 0 := by
  unfold cge
  rw [List.countP_eq_zero]
  intro z hz
  have := h z hz
  simp
  omega
theorem cge_split (M : List Nat) (k y : Nat) : cge M y = cge (M.take k) y + cge (M.drop k) y := by
  unfold cge
  rw [← List.countP_append, List.take_append_drop]
theorem cge_perm {M : List Nat} (h : M.Perm L) (y : Nat) : cge M y = cge L y := h.countP_eq _
theorem cge_le (M : List Nat) (y : Nat) : cge M y ≤ M.length := List.countP_le_length
theorem mid_yes {M : List Nat} (hs : M.Pairwise fun x y => x ≤ y) {h : Nat} (hh : h < M.length) : M.length - h ≤ cge M M[h] := by
  rw [cge_split M h]
  have e : cge (M.drop h) M[h] = (M.drop h).length := count_all _ (fun z hz => by
    obtain ⟨j, hj, rfl⟩ := List.mem_iff_getElem.1 hz
    rw [List.getElem_drop]
    rw [List.length_drop] at hj
    rcases Nat.eq_zero_or_pos j with h0 | h0
    · subst h0; exact Nat.le_refl _
    · exact List.pairwise_iff_getElem.1 hs h (h + j) hh (by omega) (by omega))
  rw [e, List.length_drop]
  omega
theorem mid_no {M : List Nat} (hs : M.Pairwise fun x y => x ≤ y) {h y : Nat} (hh : h < M.length) (hy : M[h] < y) : cge M y ≤ M.length - (h + 1) := by
  rw [cge_split M (h + 1)]
  have e : cge (M.take (h + 1)) y = 0 := count_none _ (fun z hz => by
    obtain ⟨j, hj, rfl⟩ := List.mem_iff_getElem.1 hz
    rw [List.length_take] at hj
    rw [List.getElem_take]
    rcases Nat.lt_or_ge j h with h0 | h0
    · have := List.pairwise_iff_getElem.1 hs j h (by omega) hh h0
      omega
    · have : j = h := by omega
      subst this
      exact hy)
  have := cge_le (M.drop (h + 1)) y
  rw [List.length_drop] at this
  omega
theorem best_ge (l : List Nat) (b : Nat) : b ≤ l.foldl (best1 L) b := by
  induction l generalizing b with
  | nil => exact Nat.le_refl _
  | cons y l ih =>
    refine Nat.le_trans ?_ (ih _)
    unfold best1
    split
    · exact Nat.le_max_left _ _
    · exact Nat.le_refl _
theorem best_in (l : List Nat) (b x : Nat) (hx : x ∈ l) (hq : L.length < 2 * cge L x) : x ≤ l.foldl (best1 L) b := by
  induction l generalizing b with
  | nil => cases hx
  | cons y l ih =>
    rcases List.mem_cons.1 hx with rfl | hx
    · refine Nat.le_trans ?_ (best_ge l _)
      unfold best1
      rw [if_pos hq]
      exact Nat.le_max_right _ _
    · exact ih _ hx
theorem best_le (l : List Nat) (b x : Nat) (hb : b ≤ x) (h : ∀ y ∈ l, L.length < 2 * cge L y → y ≤ x) : l.foldl (best1 L) b ≤ x := by
  induction l generalizing b with
  | nil => exact hb
  | cons y l ih =>
    refine ih _ ?_ (fun z hz => h z (List.mem_cons_of_mem _ hz))
    unfold best1
    split
    · next hq => exact Nat.max_le.2 ⟨hb, h y List.mem_cons_self hq⟩
    · exact hb
end
theorem swoN : Go.Sort.SWO ltN := ⟨fun x => by unfold ltN; simp, fun x y z h1 h2 => by unfold ltN at *; simp at *; omega, fun x y z h1 h2 => by unfold ltN at *; simp at *; omega⟩
def S20 (d : Array Nat) : Array Nat := insertionSort ltN d 0 d.size
theorem outerN_size (lt : Nat → Nat → Bool) (a b : Nat) : ∀ (m i : Nat) (d : Array Nat), b - i ≤ m → (Go.Sort.insOuter lt a b i d).size = d.size
  | 0, i, d, h => by rw [outer_end (by omega)]
  | m + 1, i, d, h => by
    by_cases hi : i < b
    · rw [outer_step hi, outerN_size lt a b m (i + 1) _ (by omega), inner_size]
    · rw [outer_end hi]
theorem S20_size (d : Array Nat) : (S20 d).size = d.size := outerN_size _ _ _ _ _ _ (Nat.le_refl _)
theorem S20_eq (d : Array Nat) : S20 d = S64 d := by
  have h := Go.Sort.insertionSort_holds (lt := ltN) swoN d 0 d.size (Nat.zero_le _) (Nat.le_refl _)
  have hu := Go.Sort.sorted_unique_holds (lt := ltN) swoN (fun x y h1 h2 => by unfold ltN at h1 h2; simp at h1 h2; omega) d (S20 d) h.1 h.2
  unfold S64 srt64
  rw [← hu]
theorem S20_fun : S20 = S64 := funext S20_eq
theorem sort20_any {w : World} {g n c : Nat} {d : Array Nat} (h : Arr w g d) (hd : d.size = n) (hn : n ≤ 12) :
    Calls Try.prog 36 #[.slice (some ⟨g, 0, none⟩) n c] w (Sorted w g (S20 d)) := by
  refine sort_of (by omega) fun l _ => ?_
  unfold S20
  rw [hd]
  exact pdq_few l h hd hn
end Go.Proofs.Ytapfggpeodpflaa.Qu

namespace Go.Proofs.Ytapfggpeodpflaa
open Go.RowKit
attribute [local go_sem] Oper.semAt_some

theorem keysf_any (b : Nat) (w : World) : Calls Try.prog 24 #[.map (some b)] w fun e w' => e = .returned (.func (.func 37) #[] #[.pointer (some ⟨w.heap.size, 0, none⟩)]) ∧ w' = w.alloc (.cells #[.map (some b)] 44) := by
  go_enter Try.func24, Try.ntmps24
  go_wp2
  go_ret
  exact ⟨rfl, rfl⟩
theorem own_cells {w : World} {B n sz : Nat} {e : TypeId} {v : Value} {xs : List Value} (h : w.ownsRow B e sz v n xs) : ∀ (j : Nat) (o : Obj), v.ownBlock = some j → w.heap[j]? = some o → o.isCells = true := by
  intro j o hj ho
  rcases h.2 with ⟨rfl, _⟩ | ⟨g, cap, cur, rfl, _, hg, _⟩
  · cases hj
  · cases hj
    rw [ho] at hg
    cases hg
    rfl
/-- append within a round, at its operation. -/
theorem wpLIn_app {F : Fence} {n : Nat} {P : Program} {ops : Array Oper} {rest : List Oper} {o : Oper} {a : Act} {w : World} {Q : Exit → Act → World → Prop} (hgd : o.guard = none) (s x : Operand) (t tx : TypeId)
    (ho : o.op = .call { callee := .builtin .append, args := #[s, x], argTypes := #[t, tx] })
    {base m k sz bt : Nat} {e : TypeId} {z v y : Value} {xs news : List Value} (hT : Elem P t e z sz bt) (hs : a.eval s = v) (hx : a.eval x = y) (hown : w.ownsRow base e sz v k xs) (hsrc : Src P sz tx y m news w)
    (h63 : k + m ≤ maxLen) (hbytes : (k + m) * bt ≤ 140737488355328) (hbase : base ≤ w.heap.size)
    (h : ∀ v' w', w'.ownsRow base e sz v' (k + m) (xs ++ news) → w.grownBy w' v.ownBlock → (v'.ownBlock = v.ownBlock ∨ v'.ownBlock = some w.heap.size) → wpListIn F n P ops Q rest (a.put o.dst v') w') :
    wpListIn F n P ops Q (o :: rest) a w := by
  refine wpListIn_plain hgd fun K hK => ?_
  obtain ⟨v', w', hr, h1, h2, h3⟩ := run_app (ty := o.type) hT hown hsrc h63 hbytes hbase
  unfold Oper.wpIn
  refine ⟨?_, ?_⟩
  · simp [Oper.about, ho, resolve, Target.leads, Sem.run_pure]
  · rw [Oper.semAt_plain F _ _ (by rw [ho]; intro c hc'; cases hc')]
    simp [execOp, ho, resolve, invoke, builtin, hs, hx, hr, Result.andThen]
    exact hK _ _ (h v' w' h1 h2 h3)
/-- Between two rounds: ss has come. -/
structure AI (w : World) (ss : List Nat) (W : World) : Prop where
  box : ∃ v, W.heap[w.heap.size]? = some (.cells #[v] 42 (0, 0)) ∧ W.ownsRow (w.heap.size + 1) 3 1 v ss.length (ins ss)
  bel : Below w.heap.size w W
theorem AI.own {w : World} {B : Nat} (hB : w.heap.size ≤ B) : OwnFrom B (AI w) := by
  rintro ss W W' row ⟨⟨v, h1, h2⟩, h3⟩ hg hr
  refine ⟨⟨v, row_far h1 hg (fun e => ?_), h2.kept hg ?_⟩, h3.grown hg h3.size (fun k e => Nat.le_trans hB (hr k e).1)⟩
  · obtain ⟨_, o, ho, hc⟩ := hr _ e.symm
    rw [h1] at ho
    cases ho
    cases hc
  · cases hk : v.ownBlock with
    | none => exact .inl rfl
    | some q =>
      refine .inr fun e => ?_
      obtain ⟨_, o, ho, hc⟩ := hr _ e.symm
      have := own_cells h2 q o hk ho
      rw [this] at hc
      cases hc
/-- What was collected. -/
def Coll (S : List Nat → Prop) (w : World) (e : Ending) (w' : World) : Prop := ∃ A c ss, e = .returned (.slice A ss.length c) ∧ S ss ∧ w'.ownsRow w.heap.size 3 1 (.slice A ss.length c) ss.length (ins ss) ∧ Below w.heap.size w w'

set_option maxHeartbeats 4000000 in
set_option maxRecDepth 8000 in
theorem appseq_in (n : Nat) (hn : 3 ≤ n) (g : Nat) (lb : Array Value) (eg : ∀ args w, (callFunc g args).run Try.prog w = .ok (.enter g args) w) (S Sp : List Nat → Prop) (N : Nat) (hN : N ≤ 1000000) (w : World)
    (hseq : SeqStopsA Fence.wide (n - 1) Try.prog g lb encB S Sp N w) :
    CallsIn Fence.wide n Try.prog 47 #[.slice none 0 0, .func (.func g) #[] lb] w (Coll S w) := by
  have hb0 : Below w.heap.size w (w.alloc (.cells #[.slice none 0 0] 42)) := (Below.refl _ _).alloc (Nat.le_refl _) _
  have hA0 : AI w [] (w.alloc (.cells #[.slice none 0 0] 42)) := ⟨⟨_, heap_alloc_new w _, World.ownsRow_nil _ _ _ _⟩, hb0⟩
  have HB0 := Lib.hid hb0
  have HA0 := Lib.hid hA0
  have HSQ := Lib.hid hseq
  have HNN := Lib.hid hN
  clear hseq hb0 hA0 hN
  refine callsIn_of_wp_marks Try.func47 rfl trivial ?_ rfl
  simp only [Try.ntmps47, List.size_toArray, List.length_nil, List.length_cons, Nat.reduceAdd, Nat.reduceSub, Array.replicate_succ, Array.replicate_zero, List.push_toArray, List.append_toArray, List.nil_append, List.cons_append]
  gi_wp2_with (fail)
  refine wpIn_rangeFunc_ownF rfl (by omega) (gf := g) (lb := lb) rfl trivial eg (encs := encB) (Kp := KeepsWalks) (seqStopsA_iff.1 HSQ.out) walksK_t walksK_b HB0.out (fun _ => rfl) (AI w) (fun _ _ _ => False) (AI.own (by simp)) (fun _ _ _ _ _ h _ _ => h) HA0.out
    (fun x => { tmps := #[.slice none 0 0, .func (.func g) #[] lb, .pointer (some ⟨w.heap.size, 0, none⟩), undef, .slice none 0 0, .int .i64 (x : Int), .func (.func g) #[] lb, .int .i64 (x : Int), undef, undef, undef, undef, undef], defers := [] })
    ?assign ?body ?done (fun _ _ _ _ _ _ h _ => h.elim)
  case assign =>
    intro l0 x W' K hK
    unfold encB
    gi_wp2
    exact hK
  case body =>
    rintro l0 pre x W' hJ hlen
    obtain ⟨v', hb', ho'⟩ := hJ.box
    obtain ⟨A1, c1, rfl⟩ := ownsRow_form ho'
    have d1 : W'.cell? ⟨w.heap.size, 0, none⟩ = some (.slice A1 pre.length c1) := cell_of_row W' _ 0 _ _ _ hb'
    have HBO := Lib.hid hb'
    have HOO := Lib.hid ho'
    have HBL := Lib.hid hJ.bel
    have hsrc := Src.lit (P := Try.prog) (w := W') Try.underlying42 (e := 3) #[.int .i64 (x : Int)] (n := 1) (sz := 1) rfl (by intro u hu; simp at hu; subst hu; rfl)
    have hwlt : w.heap.size + 1 ≤ W'.heap.size := by have := (Array.getElem?_eq_some_iff.1 hb').1; omega
    have HWL := Lib.hid hwlt
    have HLN := Lib.hid hlen
    clear hb' ho' hJ hwlt hlen
    gi_wp2_with (first
      | (gi_at_builtin; refine wpLIn_app rfl (.tmp 8) (.tmp 10) _ _ rfl Qu.ElemI (m := 1) rfl rfl (HOO.out.alloc _) hsrc (by have := HNN.out; have := HLN.out; unfold maxLen; omega) (by have := HNN.out; have := HLN.out; omega) (by have := HWL.out; simp; omega) ?_; intro v2 w3 hown3 hg3 hat3
         obtain ⟨A3, c3, rfl⟩ := ownsRow_form hown3
         have hr3 := row_far (row_below HBO.out ((Below.refl _ _).alloc (Nat.le_refl _) _)) hg3 (fun e => by have := (HOO.out.lt _ e.symm).1; omega)
         have d3 : w3.cell? ⟨w.heap.size, 0, none⟩ = some (.slice A1 pre.length c1) := cell_of_row w3 _ 0 _ _ _ hr3
         have f3 := frozen_of_row w3 _ 0 _ _ hr3
         have HO3 := Lib.hid hown3
         have HG3 := Lib.hid hg3
         have HR3 := Lib.hid hr3
         clear hown3 hg3 hr3 hat3)
      | fail)
    have ko : KeepsOthers W' (w3.setCell ⟨w.heap.size, 0, none⟩ (.slice A3 (pre.length + 1) c3)) := ((KeepsOthers.alloc W' _).trans (KeepsOthers.of_grownBy HG3.out (own_cells (HOO.out.alloc _)))).trans (KeepsOthers.setCell _ _ _)
    have hb3 : Below w.heap.size w w3 := (HBL.out.alloc HBL.out.size _).grown HG3.out (by have := HWL.out; simp; omega) (fun q hq => by have := (HOO.out.lt q hq).1; omega)
    refine ⟨ko, ko.walks, ⟨.slice A3 (pre.length + 1) c3, ?_, ?_⟩, hb3.setCell (by simp) _⟩
    · rw [heap_setCell_same w3 w.heap.size 0 _ _ _ HR3.out]; rfl
    · have e1 : ins (pre ++ [x]) = ins pre ++ [.int .i64 (x : Int)] := by simp [ins]
      rw [List.length_append, e1]
      exact (Keeps.set w3 w.heap.size 0 _).own HO3.out (fun q hq e => by have := (HO3.out.lt q hq).1; omega)
  case done =>
    intro D ss W' hDl hS hJ hD
    obtain ⟨v', hb', ho'⟩ := hJ.box
    obtain ⟨A1, c1, rfl⟩ := ownsRow_form ho'
    have d1 : W'.cell? ⟨w.heap.size, 0, none⟩ = some (.slice A1 ss.length c1) := cell_of_row W' _ 0 _ _ _ hb'
    have HO := Lib.hid ho'
    have HK := Lib.hid hJ.bel
    clear ho' hb' hJ
    gi_wp2
    refine ⟨by simp, .inl ⟨_, _, rfl, run_takeDeferred hD, ?_⟩⟩
    have hg := grownBy_putObj' W' D (.deferred none)
    refine ⟨_, results_tmp rfl _ _ _, A1, c1, ss, rfl, hS, ?_, HK.out.grown hg HK.out.size (fun k e => by have := Option.some.inj e; simp at hDl; omega)⟩
    refine ownsRow_low (HO.out.kept hg ?_) (by omega)
    cases hk : Value.ownBlock (.slice A1 ss.length c1) with
    | none => exact .inl rfl
    | some q => exact .inr (fun e => by have := own_cells HO.out q _ hk (by rw [← Option.some.inj e] at hD; exact hD); cases this)
end Go.Proofs.Ytapfggpeodpflaa

/- What an iterator gives, collected and sorted: AppendSeq, Collect, Sorted. -/
import Derived.Test.YtapfggpeodpflaaBkeysM
import Derived.Test.YtapfggpeodpflaaQ20M
import Derived.RangeFuncCalls
import Derived.RangeFuncLeaves
import Derived.Shelf.Abstract
import Derived.Shelf.RegionOpen
import Derived.Sort.QuietIn
namespace Go.Proofs.Ytapfggpeodpflaa
open Go.RowKit
attribute [local go_sem] Oper.semAt_some

theorem keysf_any (b : Nat) (w : World) : Calls Try.prog 24 #[.map (some b)] w fun e w' => e = .returned (.func (.func 37) #[] #[.pointer (some ⟨w.heap.size, 0, none⟩)]) ∧ w' = w.alloc (.cells #[.map (some b)] 44) := by
  go_enter Try.func24, Try.ntmps24
  go_wp2
  go_ret
  exact ⟨rfl, rfl⟩
theorem own_cells {w : World} {B n sz : Nat} {e : TypeId} {v : Value} {xs : List Value} (h : w.ownsRow B e sz v n xs) : ∀ (j : Nat) (o : Obj), v.ownBlock = some j → w.heap[j]? = some o → o.isCells = true := by
  intro j o hj ho
  rcases h.2 with ⟨rfl, _⟩ | ⟨g, cap, cur, rfl, _, hg, _⟩
  · cases hj
  · cases hj
    rw [ho] at hg
    cases hg
    rfl
/-- append within a round, at its operation. -/
theorem wpLIn_app {F : Fence} {n : Nat} {P : Program} {ops : Array Oper} {rest : List Oper} {o : Oper} {a : Act} {w : World} {Q : Exit → Act → World → Prop} (hgd : o.guard = none) (s x : Operand) (t tx : TypeId)
    (ho : o.op = .call { callee := .builtin .append, args := #[s, x], argTypes := #[t, tx] })
    {base m k sz bt : Nat} {e : TypeId} {z v y : Value} {xs news : List Value} (hT : Elem P t e z sz bt) (hs : a.eval s = v) (hx : a.eval x = y) (hown : w.ownsRow base e sz v k xs) (hsrc : Src P sz tx y m news w)
    (h63 : k + m ≤ maxLen) (hbytes : (k + m) * bt ≤ 140737488355328) (hbase : base ≤ w.heap.size)
    (h : ∀ v' w', w'.ownsRow base e sz v' (k + m) (xs ++ news) → w.grownBy w' v.ownBlock → (v'.ownBlock = v.ownBlock ∨ v'.ownBlock = some w.heap.size) → wpListIn F n P ops Q rest (a.put o.dst v') w') :
    wpListIn F n P ops Q (o :: rest) a w := by
  refine wpListIn_plain hgd fun K hK => ?_
  obtain ⟨v', w', hr, h1, h2, h3⟩ := run_app (ty := o.type) hT hown hsrc h63 hbytes hbase
  unfold Oper.wpIn
  refine ⟨?_, ?_⟩
  · simp [Oper.about, ho, resolve, Target.leads, Sem.run_pure]
  · rw [Oper.semAt_plain F _ _ (by rw [ho]; intro c hc'; cases hc')]
    simp [execOp, ho, resolve, invoke, builtin, hs, hx, hr, Result.andThen]
    exact hK _ _ (h v' w' h1 h2 h3)
/-- Between two rounds: ss has come. -/
structure AI (w : World) (ss : List Nat) (W : World) : Prop where
  box : ∃ v, W.heap[w.heap.size]? = some (.cells #[v] 42 (0, 0)) ∧ W.ownsRow (w.heap.size + 1) 3 1 v ss.length (ins ss)
  bel : Below w.heap.size w W
theorem AI.own {w : World} {B : Nat} (hB : w.heap.size ≤ B) : OwnFrom B (AI w) := by
  rintro ss W W' row ⟨⟨v, h1, h2⟩, h3⟩ hg hr
  refine ⟨⟨v, row_far h1 hg (fun e => ?_), h2.kept hg ?_⟩, h3.grown hg h3.size (fun k e => Nat.le_trans hB (hr k e).1)⟩
  · obtain ⟨_, o, ho, hc⟩ := hr _ e.symm
    rw [h1] at ho
    cases ho
    cases hc
  · cases hk : v.ownBlock with
    | none => exact .inl rfl
    | some q =>
      refine .inr fun e => ?_
      obtain ⟨_, o, ho, hc⟩ := hr _ e.symm
      have := own_cells h2 q o hk ho
      rw [this] at hc
      cases hc
/-- What was collected. -/
def Coll (S : List Nat → Prop) (w : World) (e : Ending) (w' : World) : Prop := ∃ A c ss, e = .returned (.slice A ss.length c) ∧ S ss ∧ w'.ownsRow w.heap.size 3 1 (.slice A ss.length c) ss.length (ins ss) ∧ Below w.heap.size w w'

set_option maxHeartbeats 4000000 in
set_option maxRecDepth 8000 in
theorem appseq_in (n : Nat) (hn : 3 ≤ n) (g : Nat) (lb : Array Value) (eg : ∀ args w, (callFunc g args).run Try.prog w = .ok (.enter g args) w) (S Sp : List Nat → Prop) (N : Nat) (hN : N ≤ 1000000) (w : World)
    (hseq : SeqStopsA Fence.wide (n - 1) Try.prog g lb encB S Sp N w) :
    CallsIn Fence.wide n Try.prog 47 #[.slice none 0 0, .func (.func g) #[] lb] w (Coll S w) := by
  have hb0 : Below w.heap.size w (w.alloc (.cells #[.slice none 0 0] 42)) := (Below.refl _ _).alloc (Nat.le_refl _) _
  have hA0 : AI w [] (w.alloc (.cells #[.slice none 0 0] 42)) := ⟨⟨_, heap_alloc_new w _, World.ownsRow_nil _ _ _ _⟩, hb0⟩
  have HB0 := Lib.hid hb0
  have HA0 := Lib.hid hA0
  have HSQ := Lib.hid hseq
  have HNN := Lib.hid hN
  clear hseq hb0 hA0 hN
  refine callsIn_of_wp_marks Try.func47 rfl trivial ?_ rfl
  simp only [Try.ntmps47, List.size_toArray, List.length_nil, List.length_cons, Nat.reduceAdd, Nat.reduceSub, Array.replicate_succ, Array.replicate_zero, List.push_toArray, List.append_toArray, List.nil_append, List.cons_append]
  gi_wp2_with (fail)
  refine wpIn_rangeFunc_ownF rfl (by omega) (gf := g) (lb := lb) rfl trivial eg (encs := encB) (Kp := KeepsWalks) (seqStopsA_iff.1 HSQ.out) walksK_t walksK_b HB0.out (fun _ => rfl) (AI w) (fun _ _ _ => False) (AI.own (by simp)) (fun _ _ _ _ _ h _ _ => h) HA0.out
    (fun x => { tmps := #[.slice none 0 0, .func (.func g) #[] lb, .pointer (some ⟨w.heap.size, 0, none⟩), undef, .slice none 0 0, .int .i64 (x : Int), .func (.func g) #[] lb, .int .i64 (x : Int), undef, undef, undef, undef, undef], defers := [] })
    ?assign ?body ?done (fun _ _ _ _ _ _ h _ => h.elim)
  case assign =>
    intro l0 x W' K hK
    unfold encB
    gi_wp2
    exact hK
  case body =>
    rintro l0 pre x W' hJ hlen
    obtain ⟨v', hb', ho'⟩ := hJ.box
    obtain ⟨A1, c1, rfl⟩ := ownsRow_form ho'
    have d1 : W'.cell? ⟨w.heap.size, 0, none⟩ = some (.slice A1 pre.length c1) := cell_of_row W' _ 0 _ _ _ hb'
    have HBO := Lib.hid hb'
    have HOO := Lib.hid ho'
    have HBL := Lib.hid hJ.bel
    have hsrc := Src.lit (P := Try.prog) (w := W') Try.underlying42 (e := 3) #[.int .i64 (x : Int)] (n := 1) (sz := 1) rfl (by intro u hu; simp at hu; subst hu; rfl)
    have hwlt : w.heap.size + 1 ≤ W'.heap.size := by have := (Array.getElem?_eq_some_iff.1 hb').1; omega
    have HWL := Lib.hid hwlt
    have HLN := Lib.hid hlen
    clear hb' ho' hJ hwlt hlen
    gi_wp2_with (first
      | (gi_at_builtin; refine wpLIn_app rfl (.tmp 8) (.tmp 10) _ _ rfl Qu.ElemI (m := 1) rfl rfl (HOO.out.alloc _) hsrc (by have := HNN.out; have := HLN.out; unfold maxLen; omega) (by have := HNN.out; have := HLN.out; omega) (by have := HWL.out; simp; omega) ?_; intro v2 w3 hown3 hg3 hat3
         obtain ⟨A3, c3, rfl⟩ := ownsRow_form hown3
         have hr3 := row_far (row_below HBO.out ((Below.refl _ _).alloc (Nat.le_refl _) _)) hg3 (fun e => by have := (HOO.out.lt _ e.symm).1; omega)
         have d3 : w3.cell? ⟨w.heap.size, 0, none⟩ = some (.slice A1 pre.length c1) := cell_of_row w3 _ 0 _ _ _ hr3
         have f3 := frozen_of_row w3 _ 0 _ _ hr3
         have HO3 := Lib.hid hown3
         have HG3 := Lib.hid hg3
         have HR3 := Lib.hid hr3
         clear hown3 hg3 hr3 hat3)
      | fail)
    have ko : KeepsOthers W' (w3.setCell ⟨w.heap.size, 0, none⟩ (.slice A3 (pre.length + 1) c3)) := ((KeepsOthers.alloc W' _).trans (KeepsOthers.of_grownBy HG3.out (own_cells (HOO.out.alloc _)))).trans (KeepsOthers.setCell _ _ _)
    have hb3 : Below w.heap.size w w3 := (HBL.out.alloc HBL.out.size _).grown HG3.out (by have := HWL.out; simp; omega) (fun q hq => by have := (HOO.out.lt q hq).1; omega)
    refine ⟨ko, ko.walks, ⟨.slice A3 (pre.length + 1) c3, ?_, ?_⟩, hb3.setCell (by simp) _⟩
    · rw [heap_setCell_same w3 w.heap.size 0 _ _ _ HR3.out]; rfl
    · have e1 : ins (pre ++ [x]) = ins pre ++ [.int .i64 (x : Int)] := by simp [ins]
      rw [List.length_append, e1]
      exact (Keeps.set w3 w.heap.size 0 _).own HO3.out (fun q hq e => by have := (HO3.out.lt q hq).1; omega)
  case done =>
    intro D ss W' hDl hS hJ hD
    obtain ⟨v', hb', ho'⟩ := hJ.box
    obtain ⟨A1, c1, rfl⟩ := ownsRow_form ho'
    have d1 : W'.cell? ⟨w.heap.size, 0, none⟩ = some (.slice A1 ss.length c1) := cell_of_row W' _ 0 _ _ _ hb'
    have HO := Lib.hid ho'
    have HK := Lib.hid hJ.bel
    clear ho' hb' hJ
    gi_wp2
    refine ⟨by simp, .inl ⟨_, _, rfl, run_takeDeferred hD, ?_⟩⟩
    have hg := grownBy_putObj' W' D (.deferred none)
    refine ⟨_, results_tmp rfl _ _ _, A1, c1, ss, rfl, hS, ?_, HK.out.grown hg HK.out.size (fun k e => by have := Option.some.inj e; simp at hDl; omega)⟩
    refine ownsRow_low (HO.out.kept hg ?_) (by omega)
    cases hk : Value.ownBlock (.slice A1 ss.length c1) with
    | none => exact .inl rfl
    | some q => exact .inr (fun e => by have := own_cells HO.out q _ hk (by rw [← Option.some.inj e] at hD; exact hD); cases this)
end Go.Proofs.Ytapfggpeodpflaa

/- New. -/
import Derived.Test.YtenloljcaolkfaaBgr
namespace Go.Proofs.Ytenloljcaolkfaa
open Go.RowKit
set_option maxRecDepth 20000

section
variable {P : Program} {ops : Array Oper} {o : Oper} {rest : List Oper} {a : Act} {w : World} {Q : Exit → Act → World → Prop}
theorem wpL_insert (hgd : o.guard = none) (ty : TypeId) (x y z : Operand) (ho : o.op = .insert ty x y z) {p q r : Value} {w' : World} (hx : a.eval x = p) (hy : a.eval y = q) (hz : a.eval z = r) (hrun : (Instr.mapUpdate ty p q r).run P w = .ok () w')
    (h : wpList P ops Q rest (a.put o.dst undef) w') : wpList P ops Q (o :: rest) a w := by
  refine wpList_plain hgd fun K hK => ?_
  unfold Oper.wp
  simp only [execOp, ho, hx, hy, hz, Sem.run_bind, hrun, Result.andThen_ok, Sem.run_pure]
  exact hK _ _ h
end
/-- The set of the first k nodes. -/
def nset (k : Nat) : Nat := Qu.withN 0 ((List.range k).map fun (i : Nat) => (i : Int))
theorem nset_more (k : Nat) : Qu.withN (nset k) [(k : Int)] = nset (k + 1) := by
  unfold nset Qu.withN
  rw [List.range_succ, List.map_append, List.foldl_append]
  rfl
theorem nset_lt (k : Nat) (h : k ≤ 7) : nset k < 128 := by
  have : ∀ j : Fin 8, nset j.val < 128 := by decide +kernel
  exact this ⟨k, by omega⟩
theorem nset_has (k : Nat) (h : k ≤ 7) (n : Int) : Qu.inB (nset k) n = (decide (0 ≤ n) && decide (n < (k : Int))) := by
  unfold Qu.inB
  by_cases h0 : 0 ≤ n
  · obtain ⟨i, rfl⟩ : ∃ i : Nat, n = (i : Int) := ⟨n.toNat, by omega⟩
    by_cases hi : i < 64
    · have : (nset k).testBit i = decide (i < k) := by
        unfold nset
        rw [Qu.withN_bit _ _ _ hi, Nat.zero_testBit, Bool.false_or, Bool.eq_iff_iff, List.any_eq_true, decide_eq_true_eq]
        constructor
        · rintro ⟨z, hz, e⟩
          obtain ⟨j, hj, rfl⟩ := List.mem_map.1 hz
          have := of_decide_eq_true e
          have := List.mem_range.1 hj
          omega
        · intro hik
          exact ⟨_, List.mem_map.2 ⟨i, List.mem_range.2 hik, rfl⟩, by simp⟩
      rw [Int.toNat_natCast, this]
      have h64 : (i : Int) < 64 := by omega
      simp [h64]
    · have h1 : ¬ (i : Int) < 64 := by omega
      have h2 : ¬ (i : Int) < (k : Int) := by omega
      simp [h1, h2]
  · simp [h0]
def nosuch (N k : Int) : Prop := N < 1 ∨ 7 < N ∨ k < 0 ∨ N ≤ k
set_option maxHeartbeats 1000000 in
theorem new_no (N k : Int) (tm bs : Value) (v : Value) (h : nosuch N k) (w : World) : Calls Try.prog 9 #[.int .i64 N, .int .i64 k, tm, bs, v] w (TVal w (.pointer none)) := by
  unfold TVal
  by_cases h1 : N < 1
  · go_enter Try.func9, Try.ntmps9
    go_wp2
    go_ret
    exact ⟨rfl, Below.refl _ _⟩
  by_cases h2 : 7 < N
  · have d1 : decide (N < 1) = false := by simp; omega
    go_enter Try.func9, Try.ntmps9
    go_wp2
    go_ret
    exact ⟨rfl, Below.refl _ _⟩
  by_cases h3 : k < 0
  · have d1 : decide (N < 1) = false := by simp; omega
    have d2 : decide (7 < N) = false := by simp; omega
    go_enter Try.func9, Try.ntmps9
    go_wp2
    go_ret
    exact ⟨rfl, Below.refl _ _⟩
  have h4 : N ≤ k := by unfold nosuch at h; omega
  have d1 : decide (N < 1) = false := by simp; omega
  have d2 : decide (7 < N) = false := by simp; omega
  have d3 : decide (k < 0) = false := by simp; omega
  go_enter Try.func9, Try.ntmps9
  go_wp2
  go_ret
  exact ⟨rfl, Below.refl _ _⟩
/-- What New tells. -/
def TNew (w : World) (N k tm bs : Nat) (es : List En) (r : Ending) (w' : World) : Prop :=
  ∃ (b m : Nat) (l : Li), r = .returned (.pointer (some ⟨b, 0, none⟩)) ∧ w.heap.size ≤ b ∧ w.heap.size ≤ m ∧ Cop es l.es ∧ l.n = es.length ∧ BlAt w' b ⟨nset N, tm, bs, m, fun y => if y = k then some l else none⟩ ∧ Below w.heap.size w w'
theorem new_vs (k nd tm bs m : Nat) (l : Li) (hk : k < 7) : (Bl.vs ⟨nd, tm, bs, m, fun y => if y = k then some l else none⟩).length = 1 := by
  have := vote_len ⟨nd, tm, bs, m, fun _ => none⟩ k l hk rfl
  unfold Bl.vote at this
  dsimp only at this
  rw [this]
  have h0 : (Bl.vs ⟨nd, tm, bs, m, fun _ => none⟩) = [] := by unfold Bl.vs keysOf sv; simp
  rw [h0]
  rfl
set_option maxHeartbeats 4000000 in
theorem new_ok {w : World} {A : Option Addr} {n c : Nat} {es : List En} (hl : Ents w A n c es) (hf : ∀ e ∈ es, e.bn ≤ 200) (hn1 : n ≤ 100000) (N k tm bs : Nat) (hN : N ≤ 7) (hk : k < N) (ht : tm < 18446744073709551616) (hb : bs < 18446744073709551616) :
    Calls Try.prog 9 #[.int .i64 (N : Int), .int .i64 (k : Int), .int .u64 (tm : Int), .int .u64 (bs : Int), .slice A n c] w (TNew w N k tm bs es) := by
  have d1 : decide ((N : Int) < 1) = false := by simp; omega
  have d2 : decide (7 < (N : Int)) = false := by simp; omega
  have d3 : decide ((k : Int) < 0) = false := by simp
  have d4 : decide ((N : Int) ≤ (k : Int)) = false := by simp; omega
  have HC := Lib.hid (fun w' (hb : Below w.heap.size w w') => copies_any (hl.below hb) hf hn1)
  have HF := Lib.hid hf
  have HTB := Lib.hid (And.intro ht hb)
  have HK := Lib.hid (And.intro hk hN)
  have hNi : (N : Int) ≤ 7 := by omega
  have hNk : (k : Int) < (N : Int) := by omega
  have HP := Lib.hid (fun (w1 : World) (v : Value) (hM : MapB Try.prog 3 w1 w.heap.size 0 (fun _ => none)) (hs : IsSl v) => hM.put Try.underlying3 Try.underlying44 (by decide) k (by omega) hs)
  unfold TCop TCop.IsSlc at HC
  have hmm := @run_makeMap Try.prog
  clear hl hf hn1 ht hb hk hN
  go_enter Try.func9, Try.ntmps9
  go_wp2_with (first
    | (go_at_call 20
       refine (HC.out _ ((Below.refl _ _).alloc (Nat.le_refl _) _)).mono ?_
       rintro e v0 ⟨A', c', es', rfl, ⟨hown, hents⟩, hlen, hcop, bv0⟩
       have hM0 : MapB Try.prog 3 v0 w.heap.size 0 (fun _ => none) := (mapB_made w).same (bv0.block _ (by simp))
       obtain ⟨V, hrun, hMV, hgV, hzV⟩ := HP.out v0 (.slice A' es.length c') hM0 (isSl_own hown)
       have HMV := Lib.hid hMV
       have HEV := Lib.hid (by obtain ⟨ob, h1, h2⟩ := hM0.isMap; exact hents.mapk h1 h2 hgV)
       have HBV := Lib.hid (((((Below.refl w.heap.size w).alloc (Nat.le_refl _) _).trans (bv0.mono (by simp))).grown hgV (by have := bv0.size; simp at this; omega) (fun q e => by cases e; exact Nat.le_refl _)))
       have HCO := Lib.hid (show Cop es es' from ⟨hlen, hcop⟩)
       clear hM0 hown hents hcop hgV hMV bv0 hlen)
    | (refine wpL_insert rfl 44 (.tmp 30) (.tmp 31) (.tmp 33) rfl rfl rfl rfl hrun ?_; clear hrun hzV)
    | fail)
  go_loopw [12, 38] (fun _ kv wr => ∃ i : Nat, i ≤ N ∧ kv = .int .i64 (i : Int) ∧ Hid (Below V.heap.size V wr) ∧ Hid (wr.heap[V.heap.size]? = some (.cells #[.int .u64 ((nset i : Nat) : Int), .int .u64 (tm : Int), .int .u64 (bs : Int), .map (some w.heap.size)] 46 (0, 0)))) (fun _ kv _ => N - (intOf kv).toNat)
  case atStart => exact ⟨0, Nat.zero_le _, rfl, Lib.hid ((Below.refl _ _).alloc (Nat.le_refl _) _), Lib.hid (heap_alloc_new V _)⟩
  case round =>
    obtain ⟨i, hi, rfl, HB, HR⟩ := hrel
    by_cases hlt : i < N
    · have hii : (i : Int) < (N : Int) := by omega
      have HW := Lib.hid (fun W A c (h : Rd W W.heap.size 1 A 1 c (Qu.is [(i : Int)])) => Qu.with_any (nset i) (Nat.lt_trans (nset_lt i (by omega)) (by decide)) h (by decide))
      rw [nset_more] at HW
      have HLT := Lib.hid hlt
      have HM1 := Lib.hid (nset_lt (i + 1) (by omega))
      have c0 := cell_of_row wr V.heap.size 0 _ _ _ HR.out
      have f0 := frozen_of_row wr V.heap.size 0 _ _ HR.out
      generalize nset i = S at *
      obtain ⟨S1, hS1⟩ : ∃ S1, nset (i + 1) = S1 := ⟨_, rfl⟩
      rw [hS1] at HW HM1
      have HS1 := Lib.hid hS1
      clear hS1
      clear hlt
      go_wp2_with (first
        | (go_at_call 21
           refine (HW.out _ _ _ (Rd.lit wr #[.int .i64 (i : Int)] _ rfl (by unfold maxLen; omega) (by simp))).mono ?_
           rintro e w3 ⟨rfl, rfl⟩
           have hr1 := row_old (Obj.cells #[.int .i64 (i : Int)] 3) HR.out
           have c1 := cell_of_row _ V.heap.size 0 _ _ _ hr1
           have f1 := frozen_of_row _ V.heap.size 0 _ _ hr1
           clear hr1)
        | fail)
      go_roundw
      case rel =>
        refine ⟨i + 1, HLT.out, by go_num, Lib.hid ((HB.out.alloc HB.out.size _).setCell (by simp) _), Lib.hid ?_⟩
        rw [heap_setCell_same _ V.heap.size 0 _ _ _ (row_old _ HR.out), HS1.out]
        rfl
      case measure => have := HLT.out; simp [intOf]; omega
    · obtain rfl : i = N := by omega
      go_wp2
      go_ret
      refine ⟨V.heap.size, w.heap.size, ⟨A', es.length, c', es'⟩, rfl, HBV.out.size, Nat.le_refl _, HCO.out, rfl, ⟨HR.out, ?_, ?_, ?_, ?_, nset_lt _ HK.out.2, HTB.out.1, HTB.out.2⟩, HBV.out.trans (HB.out.mono HBV.out.size)⟩
      · rw [new_vs _ _ _ _ _ _ (by have := HK.out; omega)]
        have := HMV.out.same (HB.out.block _ HMV.out.lt)
        have e : sv (fun y => if y = k then some (⟨A', es.length, c', es'⟩ : Li) else none) = fun y => if y = k then some (.slice A' es.length c') else none := sv_vote (fun _ => none) k _
        dsimp only
        rw [e]
        exact this
      all_goals
        intro y z hy
        dsimp only at hy
        split at hy <;> cases hy
      · next e => have := HK.out; omega
      · exact HEV.out.below HB.out
      · exact HCO.out.bns HF.out
end Go.Proofs.Ytenloljcaolkfaa

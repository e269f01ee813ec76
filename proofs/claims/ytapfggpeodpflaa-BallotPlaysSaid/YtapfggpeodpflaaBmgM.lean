/- New. Merge. -/
import Derived.Test.YtapfggpeodpflaaBgrM
namespace Go.Proofs.Ytapfggpeodpflaa
open Go.RowKit
set_option maxRecDepth 20000

section
variable {P : Program} {ops : Array Oper} {o : Oper} {rest : List Oper} {a : Act} {w : World} {Q : Exit → Act → World → Prop}
theorem wpL_insert (hgd : o.guard = none) (ty : TypeId) (x y z : Operand) (ho : o.op = .insert ty x y z) {p q r : Value} {w' : World} (hx : a.eval x = p) (hy : a.eval y = q) (hz : a.eval z = r) (hrun : (Instr.mapUpdate ty p q r).run P w = .ok () w')
    (h : wpList P ops Q rest (a.put o.dst undef) w') : wpList P ops Q (o :: rest) a w := by
  refine wpList_plain hgd fun K hK => ?_
  unfold Oper.wp
  simp only [execOp, ho, hx, hy, hz, Sem.run_bind, hrun, Result.andThen_ok, Sem.run_pure]
  exact hK _ _ h
end
/-- The set of the first k nodes. -/
def nset (k : Nat) : Nat := Qu.withN 0 ((List.range k).map fun (i : Nat) => (i : Int))
theorem nset_more (k : Nat) : Qu.withN (nset k) [(k : Int)] = nset (k + 1) := by
  unfold nset Qu.withN
  rw [List.range_succ, List.map_append, List.foldl_append]
  rfl
theorem nset_lt (k : Nat) (h : k ≤ 7) : nset k < 128 := by
  have : ∀ j : Fin 8, nset j.val < 128 := by decide +kernel
  exact this ⟨k, by omega⟩
theorem nset_has (k : Nat) (h : k ≤ 7) (n : Int) : Qu.inB (nset k) n = (decide (0 ≤ n) && decide (n < (k : Int))) := by
  unfold Qu.inB
  by_cases h0 : 0 ≤ n
  · obtain ⟨i, rfl⟩ : ∃ i : Nat, n = (i : Int) := ⟨n.toNat, by omega⟩
    by_cases hi : i < 64
    · have : (nset k).testBit i = decide (i < k) := by
        unfold nset
        rw [Qu.withN_bit _ _ _ hi, Nat.zero_testBit, Bool.false_or, Bool.eq_iff_iff, List.any_eq_true, decide_eq_true_eq]
        constructor
        · rintro ⟨z, hz, e⟩
          obtain ⟨j, hj, rfl⟩ := List.mem_map.1 hz
          have := of_decide_eq_true e
          have := List.mem_range.1 hj
          omega
        · intro hik
          exact ⟨_, List.mem_map.2 ⟨i, List.mem_range.2 hik, rfl⟩, by simp⟩
      rw [Int.toNat_natCast, this]
      have h64 : (i : Int) < 64 := by omega
      simp [h64]
    · have h1 : ¬ (i : Int) < 64 := by omega
      have h2 : ¬ (i : Int) < (k : Int) := by omega
      simp [h1, h2]
  · simp [h0]
def nosuch (N k : Int) : Prop := N < 1 ∨ 7 < N ∨ k < 0 ∨ N ≤ k
set_option maxHeartbeats 1000000 in
theorem new_no (N k : Int) (tm bs : Value) (v : Value) (h : nosuch N k) (w : World) : Calls Try.prog 9 #[.int .i64 N, .int .i64 k, tm, bs, v] w (TVal w (.pointer none)) := by
  unfold TVal
  by_cases h1 : N < 1
  · go_enter Try.func9, Try.ntmps9
    go_wp2
    go_ret
    exact ⟨rfl, Below.refl _ _⟩
  by_cases h2 : 7 < N
  · have d1 : decide (N < 1) = false := by simp; omega
    go_enter Try.func9, Try.ntmps9
    go_wp2
    go_ret
    exact ⟨rfl, Below.refl _ _⟩
  by_cases h3 : k < 0
  · have d1 : decide (N < 1) = false := by simp; omega
    have d2 : decide (7 < N) = false := by simp; omega
    go_enter Try.func9, Try.ntmps9
    go_wp2
    go_ret
    exact ⟨rfl, Below.refl _ _⟩
  have h4 : N ≤ k := by unfold nosuch at h; omega
  have d1 : decide (N < 1) = false := by simp; omega
  have d2 : decide (7 < N) = false := by simp; omega
  have d3 : decide (k < 0) = false := by simp; omega
  go_enter Try.func9, Try.ntmps9
  go_wp2
  go_ret
  exact ⟨rfl, Below.refl _ _⟩
/-- What New tells. -/
def TNew (w : World) (N k tm bs : Nat) (es : List En) (r : Ending) (w' : World) : Prop :=
  ∃ (b m : Nat) (l : Li), r = .returned (.pointer (some ⟨b, 0, none⟩)) ∧ w.heap.size ≤ b ∧ w.heap.size ≤ m ∧ Cop es l.es ∧ l.n = es.length ∧ BlAt w' b ⟨nset N, tm, bs, m, fun y => if y = k then some l else none⟩ ∧ Below w.heap.size w w'
theorem new_vs (k nd tm bs m : Nat) (l : Li) (hk : k < 7) : (Bl.vs ⟨nd, tm, bs, m, fun y => if y = k then some l else none⟩).length = 1 := by
  have := vote_len ⟨nd, tm, bs, m, fun _ => none⟩ k l hk rfl
  unfold Bl.vote at this
  dsimp only at this
  rw [this]
  have h0 : (Bl.vs ⟨nd, tm, bs, m, fun _ => none⟩) = [] := by unfold Bl.vs keysOf sv; simp
  rw [h0]
  rfl
set_option maxHeartbeats 4000000 in
theorem new_ok {w : World} {A : Option Addr} {n c : Nat} {es : List En} (hl : Ents w A n c es) (hf : ∀ e ∈ es, e.bn ≤ 200) (hn1 : n ≤ 100000) (N k tm bs : Nat) (hN : N ≤ 7) (hk : k < N) (ht : tm < 18446744073709551616) (hb : bs < 18446744073709551616) :
    Calls Try.prog 9 #[.int .i64 (N : Int), .int .i64 (k : Int), .int .u64 (tm : Int), .int .u64 (bs : Int), .slice A n c] w (TNew w N k tm bs es) := by
  have d1 : decide ((N : Int) < 1) = false := by simp; omega
  have d2 : decide (7 < (N : Int)) = false := by simp; omega
  have d3 : decide ((k : Int) < 0) = false := by simp
  have d4 : decide ((N : Int) ≤ (k : Int)) = false := by simp; omega
  have HC := Lib.hid (fun w' (hb : Below w.heap.size w w') => copies_any (hl.below hb) hf hn1)
  have HF := Lib.hid hf
  have HTB := Lib.hid (And.intro ht hb)
  have HK := Lib.hid (And.intro hk hN)
  have hNi : (N : Int) ≤ 7 := by omega
  have hNk : (k : Int) < (N : Int) := by omega
  have HP := Lib.hid (fun (w1 : World) (v : Value) (hM : MapB Try.prog 3 w1 w.heap.size 0 (fun _ => none)) (hs : IsSl v) => hM.put Try.underlying3 Try.underlying44 (by decide) k (by omega) hs)
  unfold TCop TCop.IsSlc at HC
  have hmm := @run_makeMap Try.prog
  clear hl hf hn1 ht hb hk hN
  go_enter Try.func9, Try.ntmps9
  go_wp2_with (first
    | (go_at_call 20
       refine (HC.out _ ((Below.refl _ _).alloc (Nat.le_refl _) _)).mono ?_
       rintro e v0 ⟨A', c', es', rfl, ⟨hown, hents⟩, hlen, hcop, bv0⟩
       have hM0 : MapB Try.prog 3 v0 w.heap.size 0 (fun _ => none) := (mapB_made w).same (bv0.block _ (by simp))
       obtain ⟨V, hrun, hMV, hgV, hzV⟩ := HP.out v0 (.slice A' es.length c') hM0 (isSl_own hown)
       have HMV := Lib.hid hMV
       have HEV := Lib.hid (by obtain ⟨ob, h1, h2⟩ := hM0.isMap; exact hents.mapk h1 h2 hgV)
       have HBV := Lib.hid (((((Below.refl w.heap.size w).alloc (Nat.le_refl _) _).trans (bv0.mono (by simp))).grown hgV (by have := bv0.size; simp at this; omega) (fun q e => by cases e; exact Nat.le_refl _)))
       have HCO := Lib.hid (show Cop es es' from ⟨hlen, hcop⟩)
       clear hM0 hown hents hcop hgV hMV bv0 hlen)
    | (refine wpL_insert rfl 44 (.tmp 30) (.tmp 31) (.tmp 33) rfl rfl rfl rfl hrun ?_; clear hrun hzV)
    | fail)
  go_loopw [12, 38] (fun _ kv wr => ∃ i : Nat, i ≤ N ∧ kv = .int .i64 (i : Int) ∧ Hid (Below V.heap.size V wr) ∧ Hid (wr.heap[V.heap.size]? = some (.cells #[.int .u64 ((nset i : Nat) : Int), .int .u64 (tm : Int), .int .u64 (bs : Int), .map (some w.heap.size)] 46 (0, 0)))) (fun _ kv _ => N - (intOf kv).toNat)
  case atStart => exact ⟨0, Nat.zero_le _, rfl, Lib.hid ((Below.refl _ _).alloc (Nat.le_refl _) _), Lib.hid (heap_alloc_new V _)⟩
  case round =>
    obtain ⟨i, hi, rfl, HB, HR⟩ := hrel
    by_cases hlt : i < N
    · have hii : (i : Int) < (N : Int) := by omega
      have HW := Lib.hid (fun W A c (h : Rd W W.heap.size 1 A 1 c (Qu.is [(i : Int)])) => Qu.with_any (nset i) (Nat.lt_trans (nset_lt i (by omega)) (by decide)) h (by decide))
      rw [nset_more] at HW
      have HLT := Lib.hid hlt
      have HM1 := Lib.hid (nset_lt (i + 1) (by omega))
      have c0 := cell_of_row wr V.heap.size 0 _ _ _ HR.out
      have f0 := frozen_of_row wr V.heap.size 0 _ _ HR.out
      generalize nset i = S at *
      obtain ⟨S1, hS1⟩ : ∃ S1, nset (i + 1) = S1 := ⟨_, rfl⟩
      rw [hS1] at HW HM1
      have HS1 := Lib.hid hS1
      clear hS1
      clear hlt
      go_wp2_with (first
        | (go_at_call 21
           refine (HW.out _ _ _ (Rd.lit wr #[.int .i64 (i : Int)] _ rfl (by unfold maxLen; omega) (by simp))).mono ?_
           rintro e w3 ⟨rfl, rfl⟩
           have hr1 := row_old (Obj.cells #[.int .i64 (i : Int)] 3) HR.out
           have c1 := cell_of_row _ V.heap.size 0 _ _ _ hr1
           have f1 := frozen_of_row _ V.heap.size 0 _ _ hr1
           clear hr1)
        | fail)
      go_roundw
      case rel =>
        refine ⟨i + 1, HLT.out, by go_num, Lib.hid ((HB.out.alloc HB.out.size _).setCell (by simp) _), Lib.hid ?_⟩
        rw [heap_setCell_same _ V.heap.size 0 _ _ _ (row_old _ HR.out), HS1.out]
        rfl
      case measure => have := HLT.out; simp [intOf]; omega
    · obtain rfl : i = N := by omega
      go_wp2
      go_ret
      refine ⟨V.heap.size, w.heap.size, ⟨A', es.length, c', es'⟩, rfl, HBV.out.size, Nat.le_refl _, HCO.out, rfl, ⟨HR.out, ?_, ?_, ?_, ?_, nset_lt _ HK.out.2, HTB.out.1, HTB.out.2⟩, HBV.out.trans (HB.out.mono HBV.out.size)⟩
      · rw [new_vs _ _ _ _ _ _ (by have := HK.out; omega)]
        have := HMV.out.same (HB.out.block _ HMV.out.lt)
        have e : sv (fun y => if y = k then some (⟨A', es.length, c', es'⟩ : Li) else none) = fun y => if y = k then some (.slice A' es.length c') else none := sv_vote (fun _ => none) k _
        dsimp only
        rw [e]
        exact this
      all_goals
        intro y z hy
        dsimp only at hy
        split at hy <;> cases hy
      · next e => have := HK.out; omega
      · exact HEV.out.below HB.out
      · exact HCO.out.bns HF.out
end Go.Proofs.Ytapfggpeodpflaa

namespace Go.Proofs.Ytapfggpeodpflaa
open Go.RowKit
set_option maxRecDepth 20000

/-- The voters' lists. -/
def Bl.ls (x : Bl) : List Li := x.vs.map fun k => (x.g k).getD Li.zero
theorem Bl.ls_get {x : Bl} {i k : Nat} (h : x.vs[i]? = some k) : x.ls[i]? = some ((x.g k).getD Li.zero) := by unfold Bl.ls; rw [List.getElem?_map, h]; rfl
theorem sv_get (g : Nat → Option Li) (k : Nat) : (sv g k).getD (.slice none 0 0) = ((g k).getD Li.zero).v := by unfold sv; cases g k <;> rfl
theorem Bl.mem_ls {x : Bl} {l : Li} (h : l ∈ x.ls) : ∃ k, x.g k = some l := by
  unfold Bl.ls at h
  obtain ⟨k, hk, rfl⟩ := List.mem_map.1 h
  obtain ⟨l, hl⟩ := Option.isSome_iff_exists.1 ((x.mem_vs k).1 hk).2
  exact ⟨k, by rw [hl]; rfl⟩
theorem Bl.mem_set (x : Bl) : Qu.mem_ x.vset 64 = x.vs.map fun (i : Nat) => (i : Int) := by
  unfold Qu.mem_
  refine congrArg (List.map _) ?_
  have h1 : List.range 64 = List.range 7 ++ (List.range 57).map (7 + ·) := by rw [← List.range_add]
  rw [h1, List.filter_append]
  have h2 : ((List.range 57).map (7 + ·)).filter x.vset.testBit = [] := by
    refine List.filter_eq_nil_iff.2 fun a ha => ?_
    obtain ⟨j, hj, rfl⟩ := List.mem_map.1 ha
    have := List.mem_range.1 hj
    rw [x.vset_bit _ (by omega)]
    simp
    omega
  rw [h2, List.append_nil]
  unfold Bl.vs keysOf
  refine List.filter_congr fun a ha => ?_
  have := List.mem_range.1 ha
  rw [x.vset_bit _ (by omega), sv_some, Bool.eq_iff_iff, decide_eq_true_eq]
  exact ⟨fun h => h.2, fun h => ⟨this, h⟩⟩
theorem li_flat (Ls : List Li) (l : Li) : Li.lay.flat (Ls ++ [l]) = Li.lay.flat Ls ++ [l.v] := by
  unfold Lay.flat
  rw [List.flatMap_append]
  rfl
theorem E_lists : Elem Try.prog 29 23 (.slice none 0 0) 1 24 := Elem.mk_ Try.underlying29 (by kernel_rfl) rfl (by decide)
theorem ls_own {w : World} {base i j : Nat} {v : Value} {xs : List Value} (ho : w.ownsRow base 23 1 v i xs) (h : i = j) : w.ownsRow base 23 1 v j xs := by rw [← h]; exact ho
set_option maxHeartbeats 1000000 in
theorem merge_no {w : World} {b : Nat} {x : Bl} (h : BlAt w b x) (n : Int) (hv : Qu.majB x.vset x.nd = false) : Calls Try.prog 13 #[.pointer (some ⟨b, 0, none⟩), .int .i64 n] w (TVal w (.slice none 0 0)) := by
  have HW := Lib.hid (won_any h)
  rw [hv] at HW
  unfold TVal at *
  clear h hv
  go_enter Try.func13, Try.ntmps13
  go_wp2_with (first
    | (go_at_call 14; refine HW.out.mono ?_; rintro e w1 ⟨rfl, hb1⟩)
    | fail)
  go_ret
  exact ⟨rfl, hb1⟩
set_option maxHeartbeats 4000000 in
theorem merge_won {w : World} {b : Nat} {x : Bl} (h : BlAt w b x) (hbs : x.bs ≤ 4611686018427387904) (n : Int) (hv : Qu.majB x.vset x.nd = true) : Calls Try.prog 13 #[.pointer (some ⟨b, 0, none⟩), .int .i64 n] w (TMerge w x.bs x.tm n x.ls) := by
  have HW := Lib.hid (won_any h)
  have HV := Lib.hid (fun w' (hb : Below w.heap.size w w') => voters_any (h.below hb))
  have HME := Lib.hid (fun W => Qu.members_any x.vset W x.vset_lt)
  rw [x.mem_set] at HME
  rw [hv] at HW
  have HC := Lib.hid (fun j w' (hb : Below w.heap.size w w') => cell_of_row w' b j _ _ _ (h.below hb).row)
  have HM := Lib.hid (fun w' (hb : Below w.heap.size w w') => (h.map.same (w' := w') (hb.block _ h.map.lt)))
  have HR := Lib.hid (fun w' (hb : Below w.heap.size w w') l (hl : l ∈ x.ls) => (show Ents w' l.A l.n l.c l.es from by obtain ⟨k, hk⟩ := Bl.mem_ls hl; exact (h.lists k l hk).below hb))
  have HF := Lib.hid (fun e (he : e ∈ flat x.ls) => (show e.bn ≤ 200 from by
    unfold flat at he
    obtain ⟨l, hl, he⟩ := List.mem_flatMap.1 he
    obtain ⟨k, hk⟩ := Bl.mem_ls hl
    exact h.bns k l hk e he))
  have HL := Lib.hid (show x.ls.length = x.vs.length from by unfold Bl.ls; rw [List.length_map])
  have HL7 := Lib.hid x.vs_len
  have HT := Lib.hid h.tm
  have HLK := Lib.hid (fun w' (hb : Below w.heap.size w w') k (hk : k ∈ x.vs) => (h.map.same (w' := w') (hb.block _ h.map.lt)).look (t := 44) (e := 23) Try.underlying3 Try.underlying44 rfl k (by have := ((x.mem_vs k).1 hk).1; omega))
  simp only [sv_get] at HLK
  have HG := Lib.hid (fun i k (hi : x.vs[i]? = some k) => Bl.ls_get hi)
  unfold TVal Bl.cells Qu.Tells at *
  clear h hv HM
  generalize x.vset = V at *
  generalize x.ls = Ls at *
  generalize hks : x.vs = ks at *
  clear hks
  rw [List.length_map] at HME
  obtain ⟨L, hL⟩ : ∃ L, ks.length = L := ⟨_, rfl⟩
  rw [hL] at HME HL HL7
  have HKL := Lib.hid hL
  have hLi : (L : Int) ≤ 7 := by have := HL7.out; omega
  clear hL
  go_enter Try.func13, Try.ntmps13
  go_wp2_with (first
    | (go_at_call 14; refine HW.out.mono ?_; rintro e w1 ⟨rfl, hb1⟩; have HB1 := Lib.hid hb1; clear hb1)
    | (go_at_call 12; refine (HV.out _ HB1.out).mono ?_; rintro e w2 ⟨rfl, hb2⟩; have HB2 := Lib.hid (HB1.out.trans (hb2.mono HB1.out.size)); clear hb2)
    | (go_at_call 25; refine (HME.out _).mono ?_; rintro e w3 ⟨A0, c0, rfl, ho3, hb3⟩; have HB3 := Lib.hid (HB2.out.trans (hb3.mono HB2.out.size)); have HO3 := Lib.hid (ownsRow_rd ho3); clear hb3 ho3)
    | fail)
  go_loopw [5, 7, 15] (fun av _ kv wr => ∃ i : Nat, i ≤ L ∧ kv = .int .i64 (i : Int) ∧ Hid (wr.ownsRow w3.heap.size 23 1 av i (Li.lay.flat (Ls.take i))) ∧ Hid (Below w3.heap.size w3 wr)) (fun _ _ kv _ => L - (intOf kv).toNat)
  case atStart => exact ⟨0, Nat.zero_le _, rfl, Lib.hid (World.ownsRow_nil w3 _ _ _), Lib.hid (Below.refl _ _)⟩
  case round =>
    obtain ⟨i, hi, rfl, HO, HB⟩ := hrel
    have HBW := Lib.hid (HB3.out.trans (HB.out.mono HB3.out.size))
    obtain ⟨A5, c5, hv5⟩ := ownsRow_form HO.out
    subst hv5
    by_cases hlt : i < L
    · obtain ⟨k, hk⟩ : ∃ k, ks[i]? = some k := ⟨_, List.getElem?_eq_getElem (by have := HKL.out; omega)⟩
      obtain ⟨b1, o1, u, rfl, hb1, hu, hcu⟩ := HO3.out.at_ hlt
      have hu2 : u = .int .i64 (k : Int) := by
        unfold Qu.is at hu
        rw [List.getElem?_map, List.getElem?_map, hk] at hu
        cases hu
        rfl
      subst hu2
      have k0 : wr.cell? ⟨b1, o1 + i, none⟩ = some (.int .i64 (k : Int)) := (HB.out.cell (p := ⟨b1, o1 + i, none⟩) hb1).trans hcu
      have c3 := HC.out 3 wr HBW.out
      have hlk := HLK.out wr HBW.out k (List.mem_of_getElem? hk)
      have hli := HG.out i k hk
      have HLT := Lib.hid hlt
      have hii : (i : Int) < (L : Int) := by omega
      have hsn : Ls.take (i + 1) = Ls.take i ++ [(x.g k).getD Li.zero] := by rw [List.take_add_one, hli]; rfl
      have HSN := Lib.hid hsn
      clear hsn hli hk hu hcu hb1 hlt
      generalize (x.g k).getD Li.zero = l at *
      obtain ⟨lA, ln, lc, les⟩ := l
      unfold Li.v at hlk
      dsimp only at hlk
      go_wp2_with (first
        | (refine wpL_look rfl 44 (.tmp 23) (.tmp 24) false rfl rfl rfl hlk ?_)
        | (at_builtin
           refine wpL_app rfl (.tmp 19) (.tmp 26) _ _ rfl E_lists rfl rfl (HO.out.alloc _) (Src.lit Try.underlying29 #[.slice lA ln lc] rfl (by intro u hu; simp at hu; subst hu; rfl)) (by have := HL7.out; unfold maxLen; omega) (by have := HL7.out; omega) (by have := HB.out.size; simp; omega) ?_
           intro v3 w4 hown4 hg4 hat4
           obtain ⟨A6, c6, rfl⟩ := ownsRow_form hown4)
        | fail)
      go_roundw
      case rel =>
        refine ⟨i + 1, HLT.out, by go_num, Lib.hid ?_, Lib.hid ((HB.out.alloc HB.out.size _).grown hg4 (by have := HB.out.size; simp; omega) (fun q e => (HO.out.lt q e).1))⟩
        rw [HSN.out, li_flat]
        exact hown4
      case measure => have := HLT.out; simp [intOf]; omega
    · obtain rfl : i = L := by omega
      have hta : Ls.take i = Ls := List.take_of_length_le (by have := HL.out; omega)
      rw [hta] at HO
      have hsl : Slc Li.lay wr A5 i c5 Ls := ⟨ownsRow_rd HO.out, HL.out, fun l hl => HR.out wr HBW.out l hl⟩
      have HMG := Lib.hid (fun w' (hb : Below wr.heap.size wr w') => merge_any (hsl.below hb) HF.out x.bs x.tm hbs HT.out n)
      have HC2 := Lib.hid (fun w' (hb : Below wr.heap.size wr w') => HC.out 2 w' (HBW.out.trans (hb.mono HBW.out.size)))
      have HC1 := Lib.hid (fun w' (hb : Below wr.heap.size wr w') => HC.out 1 w' (HBW.out.trans (hb.mono HBW.out.size)))
      unfold TMerge at *
      clear hsl hta hlt
      generalize hadN (hasE Ls x.bs) 192 = H at *
      go_wp2_with (fail)
      refine wp_low wr.heap.size [([0, 1, 2, 3, 4, 5, 6, 7, 8, 9], 10)] [11] (by kernel_rfl) (by kernel_rfl) (fun d _ _ _ _ h => by cases d <;> exact h) (Nat.le_refl _) fun wd hbd => ?_
      intro q hq
      have C2 := fun z => HC2.out _ (hq z)
      have C1 := fun z => HC1.out _ (hq z)
      simp only [pickI, Option.toList_some, List.cons_append, List.nil_append, List.getElem?_toArray, List.getElem?_cons_succ, List.getElem?_cons_zero]
      try go_frame
      go_big_quiet_step (fail)
      go_big_quiet_step (fail)
      go_big_quiet_step (fail)
      go_big_quiet_step (fail)
      go_big_quiet_step (fail)
      go_big_quiet_step (fail)
      go_big_quiet_step (fail)
      go_big_quiet_step (fail)
      go_big_quiet_step (fail)
      go_big_quiet_step (fail)
      refine wpQuiet_nil ?_
      clear hq q C2 C1
      refine seg_op (by simp only [List.getElem?_toArray, List.getElem?_cons_succ, List.getElem?_cons_zero]; rfl) fun K hK => ?_
      go_simp
      refine (HMG.out _ hbd).mono ?_
      rintro e v0 ⟨A9, c9, es9, rfl, he9, hg9, bv0⟩
      have zv0 := hbd.trans (bv0.mono hbd.size)
      refine hK.out _ _ (seg_keep zv0 ?_)
      clear hK K
      intro q hq
      have C2 := fun z => HC2.out _ (hq z)
      have C1 := fun z => HC1.out _ (hq z)
      simp only [pickI, Option.toList_some, List.cons_append, List.nil_append, List.getElem?_toArray, List.getElem?_cons_succ, List.getElem?_cons_zero]
      try go_frame
      go_big_quiet_step (fail)
      refine wpQuiet_nil ?_
      clear hq q C2 C1
      have HE := Lib.hid (And.intro he9 hg9)
      clear he9 hg9
      go_wp2
      go_ret
      exact ⟨A9, c9, es9, rfl, HE.out.1, HE.out.2, HBW.out.trans (zv0.mono HBW.out.size)⟩
end Go.Proofs.Ytapfggpeodpflaa

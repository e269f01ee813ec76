/- copies: the same entries in a row of its own, their looks copied. A ballot in memory; who has voted, and whether it is won. -/
import Derived.Test.YtapfggpeodpflaaMrmergeM
import Derived.Test.YtapfggpeodpflaaBsdM
import Derived.Test.YtapfggpeodpflaaQtM
namespace Go.Proofs.Ytapfggpeodpflaa
open Go.RowKit
set_option maxRecDepth 20000

/-- What copies tells. -/
def TCop (w : World) (es : List En) (r : Ending) (w' : World) : Prop :=
  ∃ (A : Option Addr) (c : Nat) (es' : List En), r = .returned (.slice A es.length c) ∧ IsSlc w.heap.size w' A es.length c es' ∧ es'.length = es.length ∧ (∀ (j : Nat) (e : En), es[j]? = some e → ∃ A' c', es'[j]? = some (e.put A' c')) ∧ Below w.heap.size w w'
where IsSlc (B : Nat) (w' : World) (A : Option Addr) (n c : Nat) (es' : List En) : Prop := w'.ownsRow B 55 10 (.slice A n c) n (ens es') ∧ Ents w' A n c es'
theorem put_snoc {es es' : List En} {k : Nat} {e : En} (hk : es'.length = k) (he : es[k]? = some e) (h : ∀ j e, j < k → es[j]? = some e → ∃ A' c', es'[j]? = some (e.put A' c')) (A : Option Addr) (c : Nat) :
    ∀ j e', j < k + 1 → es[j]? = some e' → ∃ A' c', (es' ++ [e.put A c])[j]? = some (e'.put A' c') := by
  intro j e' hj he'
  rcases Nat.lt_or_ge j k with h1 | h1
  · rw [List.getElem?_append_left (by omega)]
    exact h j e' h1 he'
  · obtain rfl : j = k := by omega
    rw [he] at he'
    cases he'
    exact ⟨A, c, by rw [List.getElem?_append_right (by omega), hk, Nat.sub_self]; rfl⟩
set_option maxHeartbeats 8000000 in
theorem copies_any {w : World} {A : Option Addr} {n c : Nat} {es : List En} (h : Ents w A n c es) (hf : ∀ e ∈ es, e.bn ≤ 200) (hn : n ≤ 100000) :
    Calls Try.prog 20 #[.slice A n c] w (TCop w es) := by
  have HE := Lib.hid h
  have HF := Lib.hid hf
  have hnm : (n : Int) ≤ 100000 := by omega
  unfold TCop TCop.IsSlc
  rw [h.len]
  clear h hf
  go_enter Try.func20, Try.ntmps20
  go_wp2_with (fail)
  go_loopw [3, 5, 8] (fun ov _ kv wr => ∃ (k : Nat) (es' : List En), k ≤ n ∧ kv = .int .i64 (k : Int) ∧ Hid (es'.length = k) ∧ Hid (∀ (j : Nat) (e : En), j < k → es[j]? = some e → ∃ A' c', es'[j]? = some (e.put A' c')) ∧ Hid (M1 w wr ov es')) (fun _ _ kv _ => n - (intOf kv).toNat)
  case atStart => exact ⟨0, [], Nat.zero_le _, rfl, Lib.hid rfl, Lib.hid (fun j e h => absurd h (Nat.not_lt_zero _)), Lib.hid ⟨Below.refl _ _, World.ownsRow_nil w _ _ _, fun _ h => (by cases h), fun _ h => (by cases h)⟩⟩
  case round =>
    obtain ⟨k, es', hk, rfl, HLE, HC, HM⟩ := hrel
    obtain ⟨A0, c0, hv0⟩ := ownsRow_form HM.out.own
    subst hv0
    rw [HLE.out] at HM ⊢
    by_cases hlt : k < n
    · obtain ⟨e0, he⟩ : ∃ e0, es[k]? = some e0 := ⟨_, List.getElem?_eq_getElem (by have := HE.out.len; omega)⟩
      obtain ⟨b1, o1, hA1, hb1b, hc1⟩ := HE.out.rd.2.2.2 (by omega)
      subst hA1
      have hce := fun c u (hu : e0.cells[c]? = some u) => (HM.out.bel.cell (p := ⟨b1, o1 + (k * 10 + c), none⟩) hb1b).trans (hc1 _ _ (ens_get es k _ he c u hu))
      have hre := (HE.out.reads e0 (List.mem_of_getElem? he)).below HM.out.bel
      have hbn := HF.out e0 (List.mem_of_getElem? he)
      have HCA := Lib.hid (fun cs : Obj => copy_any e0 (wr.alloc cs) (hre.below ((Below.refl _ _).alloc (Nat.le_refl _) cs)) hbn)
      have HM0 := Lib.hid (fun cs : Obj => HM.out.below ((Below.refl wr.heap.size wr).alloc (Nat.le_refl _) cs))
      have HS := Lib.hid (put_snoc HLE.out he HC.out)
      have HLT := Lib.hid hlt
      have hki : (k : Int) < (n : Int) := by omega
      have HAP := Lib.hid (fun x (hx : (Value.slice A0 k c0).ownBlock = some x) => (HM.out.own.lt x hx).2)
      clear hc1 hre hbn he hlt HC HM
      obtain ⟨ix, tm, st, kd, cl, rq, fr, ct, da, A1, bn, bc, ls⟩ := e0
      unfold En.put at HCA HS
      unfold En.cells at hce HCA
      dsimp only at *
      have k0 := hce 0 _ rfl
      have k1 := hce 1 _ rfl
      have k2 := hce 2 _ rfl
      have k3 := hce 3 _ rfl
      have k4 := hce 4 _ rfl
      have k5 := hce 5 _ rfl
      have k6 := hce 6 _ rfl
      have k7 := hce 7 _ rfl
      have k8 := hce 8 _ rfl
      have k9 := hce 9 _ rfl
      try dsimp only at k0 k1 k2 k3 k4 k5 k6 k7 k8 k9
      simp only [← Nat.add_assoc, Nat.add_zero] at k0 k1 k2 k3 k4 k5 k6 k7 k8 k9
      clear hce
      go_wp2_with (first
        | (go_at_call 33; refine (HCA.out _).mono ?_; rintro e w1 ⟨A2, c2, rfl, hr1, hA2, hb1⟩
           have HM1 := Lib.hid ((HM0.out _).below hb1)
           have HR1 := Lib.hid hr1
           have HA2 := Lib.hid hA2
           have HB1 := Lib.hid hb1
           clear hb1 hA2 hr1)
        | (at_builtin
           refine wpL_app (v := .slice A0 k c0) (y := .slice (some ⟨w1.heap.size, 0, none⟩) 1 1) rfl (.tmp 12) (.tmp 15) _ _ rfl E_en rfl rfl (own_k HLE.out (HM1.out.below ((Below.refl _ _).alloc (Nat.le_refl _) _)).own) (Src.lit' rfl (n := 1) (sz := 10) Try.underlying23 #[.int .u64 (ix : Int), .int .u64 (tm : Int), .int .u64 (st : Int), .int .i64 kd, .int .u64 (cl : Int), .int .u64 (rq : Int), .int .u32 (fr : Int), .int .u32 (ct : Int), .string (str da), .slice A2 bn c2] rfl (by simp [Value.oneCell'])) (by unfold maxLen; omega) (by omega) (Nat.le_trans HM1.out.bel.size (by simp)) ?_
           intro v3 w3 hown3 hg3 hat3
           obtain ⟨A3, c3, rfl⟩ := ownsRow_form hown3)
        | fail)
      go_roundw
      case rel =>
        refine ⟨k + 1, es' ++ [⟨ix, tm, st, kd, cl, rq, fr, ct, da, A2, bn, c2, ls⟩], HLT.out, by go_num, Lib.hid (by rw [List.length_append, HLE.out]; rfl), Lib.hid (HS.out A2 c2), ?_⟩
        refine Lib.hid ((HM1.out.below ((Below.refl _ _).alloc (Nat.le_refl _) _)).app (by rw [HLE.out]; exact hown3) hg3 hat3 (HR1.out.below ((Below.refl _ _).alloc (Nat.le_refl _) _)) (fun _ x hA e => ?_))
        have h1 := HA2.out x hA
        have h2 := HAP.out x.block e
        simp at h1
        omega
      case measure => have := HLT.out; simp [intOf]; omega
    · obtain rfl : k = n := by omega
      have ho := own_k HLE.out HM.out.own
      have hl := HLE.out
      have HO := Lib.hid ho
      clear ho hl hlt
      go_wp2
      go_ret
      exact ⟨A0, c0, es', rfl, ⟨HO.out, ownsRow_rd HO.out, HLE.out, HM.out.reads⟩, HLE.out, fun j e he => HC.out j e (by have := (List.getElem?_eq_some_iff.1 he).1; have := HE.out.len; omega) he, HM.out.bel⟩
end Go.Proofs.Ytapfggpeodpflaa

namespace Go.Proofs.Ytapfggpeodpflaa
open Go.RowKit
set_option maxRecDepth 20000

/-- A ballot: its nodes, term, base, the block of its map, and what each voter has. -/
structure Bl where
  nd : Nat
  tm : Nat
  bs : Nat
  m : Nat
  g : Nat → Option Li
def sv (g : Nat → Option Li) : SaysB := fun x => (g x).map Li.v
def Bl.cells (x : Bl) : Array Value := #[.int .u64 (x.nd : Int), .int .u64 (x.tm : Int), .int .u64 (x.bs : Int), .map (some x.m)]
/-- The voters, one by one. -/
def Bl.vs (x : Bl) : List Nat := keysOf (sv x.g)
/-- The set of them. -/
def Bl.vset (x : Bl) : Nat := Qu.withN 0 (x.vs.map fun (i : Nat) => (i : Int))
structure BlAt (w : World) (b : Nat) (x : Bl) : Prop where
  row : w.heap[b]? = some (.cells x.cells 46 (0, 0))
  map : MapB Try.prog 3 w x.m x.vs.length (sv x.g)
  keys : ∀ k l, x.g k = some l → k < 7
  lists : ∀ k l, x.g k = some l → Ents w l.A l.n l.c l.es
  bns : ∀ k l, x.g k = some l → ∀ e ∈ l.es, e.bn ≤ 200
  nd : x.nd < 128
  tm : x.tm < 18446744073709551616
  bs : x.bs < 18446744073709551616
theorem Bl.vs_len (x : Bl) : x.vs.length ≤ 7 := keysOf_len _
theorem sv_some (g : Nat → Option Li) (k : Nat) : (sv g k).isSome = (g k).isSome := by unfold sv; cases g k <;> rfl
theorem Bl.mem_vs (x : Bl) (k : Nat) : k ∈ x.vs ↔ k < 7 ∧ (x.g k).isSome = true := by
  unfold Bl.vs keysOf
  rw [List.mem_filter, List.mem_range, sv_some]
theorem Bl.vset_lt (x : Bl) : x.vset < 18446744073709551616 := Qu.withN_lt _ (by decide)
theorem Bl.vset_bit (x : Bl) (i : Nat) (h : i < 64) : x.vset.testBit i = decide (i < 7 ∧ (x.g i).isSome = true) := by
  unfold Bl.vset
  rw [Qu.withN_bit _ _ _ h, Nat.zero_testBit, Bool.false_or, Bool.eq_iff_iff, List.any_eq_true, decide_eq_true_eq, ← x.mem_vs]
  constructor
  · rintro ⟨z, hz, e⟩
    obtain ⟨k, hk, rfl⟩ := List.mem_map.1 hz
    have := of_decide_eq_true e
    obtain rfl : k = i := by omega
    exact hk
  · intro hk
    exact ⟨_, List.mem_map.2 ⟨i, hk, rfl⟩, by simp⟩
theorem BlAt.below {w w' : World} {b : Nat} {x : Bl} (h : BlAt w b x) (hb : Below w.heap.size w w') : BlAt w' b x :=
  ⟨row_below h.row hb, h.map.same (hb.block _ h.map.lt), h.keys, fun k l hk => (h.lists k l hk).below hb, h.bns, h.nd, h.tm, h.bs⟩
theorem ins_is (l : List Nat) : ins l = Qu.is (l.map fun (i : Nat) => (i : Int)) := by simp [ins, Qu.is]
def TVal (w : World) (v : Value) (e : Ending) (w' : World) : Prop := e = .returned v ∧ Below w.heap.size w w'
set_option maxHeartbeats 1000000 in
theorem voters_any {w : World} {b : Nat} {x : Bl} (h : BlAt w b x) : Calls Try.prog 12 #[.pointer (some ⟨b, 0, none⟩)] w (TVal w (.int .u64 (x.vset : Int))) := by
  have c3 := cell_of_row w b 3 _ _ _ h.row
  have HK := Lib.hid (keysf_any x.m w)
  have HM := Lib.hid (h.map.same (w' := w.alloc (.cells #[.map (some x.m)] 44)) (((Below.refl w.heap.size w).alloc (Nat.le_refl _) _).block _ h.map.lt))
  have HS := Lib.hid (sorted_any w.heap.size x.m x.vs.length (sv x.g) (fun k hk => by rw [sv_some] at hk; obtain ⟨l, hl⟩ := Option.isSome_iff_exists.1 hk; exact h.keys k l hl) (by have := x.vs_len; omega) (w.alloc (.cells #[.map (some x.m)] 44)) (by simp) (cell_of_row _ _ 0 _ _ _ (heap_alloc_new w _)) HM.out)
  have HL := Lib.hid x.vs_len
  unfold TVal Bl.vset Bl.vs at *
  generalize keysOf (sv x.g) = ks at *
  unfold Bl.cells at c3
  clear h HM
  go_enter Try.func12, Try.ntmps12
  go_wp2_with (first
    | (go_at_call 24; refine HK.out.mono ?_; rintro e w1 ⟨rfl, rfl⟩)
    | (go_at_call 23; refine HS.out.mono ?_; rintro e w2 ⟨A, c, rfl, hr, hA, hb⟩; rw [ins_is] at hr; have HR := Lib.hid hr; have HB := Lib.hid hb; clear hr hb hA)
    | (go_at_call 21; refine (Qu.with_any 0 (by decide) HR.out (by have := HL.out; omega)).mono ?_; rintro e w3 ⟨rfl, rfl⟩)
    | fail)
  go_ret
  exact ⟨rfl, ((Below.refl _ _).alloc (Nat.le_refl _) _).trans (HB.out.mono (by simp))⟩
set_option maxHeartbeats 1000000 in
theorem won_any {w : World} {b : Nat} {x : Bl} (h : BlAt w b x) : Calls Try.prog 14 #[.pointer (some ⟨b, 0, none⟩)] w (TVal w (.bool (Qu.majB x.vset x.nd))) := by
  have HV := Lib.hid (fun w' (hb : Below w.heap.size w w') => voters_any (h.below hb))
  have HC := Lib.hid (fun w' (hb : Below w.heap.size w w') => cell_of_row w' b 0 _ _ _ (h.below hb).row)
  have HQ := Lib.hid (fun W => Qu.maj_any x.vset x.nd W x.vset_lt (Nat.lt_trans h.nd (by decide)))
  unfold TVal Bl.cells at *
  generalize x.vset = V at *
  clear h
  go_enter Try.func14, Try.ntmps14
  go_wp2_with (fail)
  refine wp_low w.heap.size [([0, 1, 2, 3, 5, 6, 7, 8], 4), ([], 9)] [10, 11] (by kernel_rfl) (by kernel_rfl) (fun d _ _ _ _ h => by cases d <;> exact h) (Nat.le_refl _) fun wd hbd => ?_
  intro q hq
  have C0 := fun z => HC.out _ (hq z)
  simp only [pickI, Option.toList_some, List.cons_append, List.nil_append, List.getElem?_toArray, List.getElem?_cons_succ, List.getElem?_cons_zero]
  try go_frame
  go_big_quiet_step (fail)
  go_big_quiet_step (fail)
  go_big_quiet_step (fail)
  go_big_quiet_step (fail)
  go_big_quiet_step (fail)
  go_big_quiet_step (fail)
  go_big_quiet_step (fail)
  go_big_quiet_step (fail)
  refine wpQuiet_nil ?_
  clear hq q C0
  refine seg_op (by simp only [List.getElem?_toArray, List.getElem?_cons_succ, List.getElem?_cons_zero]; rfl) fun K hK => ?_
  go_simp
  refine (HV.out _ hbd).mono ?_
  rintro e v0 ⟨rfl, bv0⟩
  have zv0 := hbd.trans (bv0.mono hbd.size)
  refine hK.out _ _ (seg_keep zv0 ?_)
  clear hK K
  intro q hq
  refine wpQuiet_nil ?_
  clear hq q
  refine seg_op (by simp only [List.getElem?_toArray, List.getElem?_cons_succ, List.getElem?_cons_zero]; rfl) fun K hK => ?_
  go_simp
  refine (HQ.out _).mono ?_
  rintro e v1 ⟨rfl, rfl⟩
  have zv1 := zv0
  refine hK.out _ _ (seg_keep zv1 ?_)
  clear hK K
  intro q hq
  have C0 := fun z => HC.out _ (hq z)
  simp only [pickI, Option.toList_some, List.cons_append, List.nil_append, List.getElem?_toArray, List.getElem?_cons_succ, List.getElem?_cons_zero]
  try go_frame
  go_big_quiet_step (fail)
  go_big_quiet_step (fail)
  refine wpQuiet_nil ?_
  clear hq q C0
  go_wp2
  go_ret
  exact ⟨rfl, zv1⟩
end Go.Proofs.Ytapfggpeodpflaa

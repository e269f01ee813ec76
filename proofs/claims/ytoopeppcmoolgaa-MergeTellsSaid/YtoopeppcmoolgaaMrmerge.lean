/- The reference's Merge. -/
import Derived.Test.YtoopeppcmoolgaaMrlast
import Derived.Test.YtoopeppcmoolgaaMmerge
namespace Go.Proofs.Ytoopeppcmoolgaa
open Go.RowKit
set_option maxRecDepth 20000

theorem wp_app2 {P : Program} {w : World} {K : Act → World → Prop} {o : Oper} {a : Act} {Q : Exit → Act → World → Prop} (s x : Operand) (t tx : TypeId)
    (ho : o.op = .call { callee := .builtin .append, args := #[s, x], argTypes := #[t, tx] })
    {base m n sz bt : Nat} {e : TypeId} {z v y : Value} {xs news : List Value} (hT : Elem P t e z sz bt) (hs : a.eval s = v) (hx : a.eval x = y) (hown : w.ownsRow base e sz v n xs) (hsrc : Src P sz tx y m news w)
    (h63 : n + m ≤ maxLen) (hbytes : (n + m) * bt ≤ 140737488355328) (hbase : base ≤ w.heap.size)
    (h : ∀ v' w', w'.ownsRow base e sz v' (n + m) (xs ++ news) → w.grownBy w' v.ownBlock → (v'.ownBlock = v.ownBlock ∨ v'.ownBlock = some w.heap.size) → K (a.put o.dst v') w') : o.wp P a w K Q := by
  obtain ⟨v', w', hr, h1, h2, h3⟩ := run_app (ty := o.type) hT hown hsrc h63 hbytes hbase
  unfold Oper.wp execOp
  simp only [ho, resolve, invoke, builtin, Sem.run_bind, Sem.run_pure, Result.andThen_ok, List.map_toArray, List.map_cons, List.map_nil, hs, hx, hr]
  exact h v' w' h1 h2 h3
theorem M1.drew {w wr : World} {v : Value} {es : List En} (h : M1 w wr v es) : M1 w wr.drew v es :=
  h.below ⟨rfl, rfl, rfl, Nat.le_refl _, fun _ _ => rfl⟩
theorem M1.ents {w wr : World} {A : Option Addr} {n c : Nat} {es : List En} (h : M1 w wr (.slice A n c) es) (hn : es.length = n) : Ents wr A n c es :=
  ⟨ownsRow_rd (own_k hn h.own), hn, h.reads⟩
theorem row_far {w w' : World} {row : Option Nat} {b : Nat} {o : Obj} (h : w.heap[b]? = some o) (hg : w.grownBy w' row) (hr : some b ≠ row) : w'.heap[b]? = some o :=
  (hg.block b (Array.getElem?_eq_some_iff.1 h).1 hr).trans h
theorem goes_core {Ls : List Li} {base term H j : Nat} {m : Int} {A : Option Addr} {c : Nat} : Core (srcE Ls base j) ((goes base term m Ls H j).put A c) := ⟨(srcE_ix Ls base j).symm, rfl, rfl, rfl, rfl, rfl, rfl⟩
theorem made_list {Ls : List Li} {base term H k : Nat} {m : Int} {es : List En} (hl : es.length = k) (hg : ∀ (j : Nat), j < k → ∃ A' c', es[j]? = some ((goes base term m Ls H j).put A' c')) : mades es (mk m k) = mades ((List.range k).map (srcE Ls base)) (mk m k) := by
  have h := mades_core (f := srcE Ls base) (es := es) (j := k) (by omega) (fun i e he => by
    obtain ⟨A', c', h⟩ := hg i (by have := (List.getElem?_eq_some_iff.1 he).1; omega)
    rw [he] at h
    cases h
    exact goes_core) (mk m k)
  rwa [List.take_of_length_le (by omega)] at h
theorem src_reads {Ls : List Li} {base j : Nat} {w : World} (h : ∀ e ∈ flat Ls, e.Reads w) (hb : base + 1 + j < 18446744073709551616) : (srcE Ls base j).Reads w := by
  unfold srcE
  cases hq : bst Ls (base + 1 + j) with
  | none => exact noop_reads (X := base + 1 + j) (term := 0) hb (by decide)
  | some e => exact h e (bestOf_mem hq)
theorem goes_reads {Ls : List Li} {base term H k B : Nat} {m : Int} {A : Option Addr} {c : Nat} {w : World} (hs : (srcE Ls base k).Reads w) (ht : term < 18446744073709551616) (hb : base + 1 + k + H < 18446744073709551616)
    (ho : w.ownsRow B 52 4 (.slice A (mk m k) c) (mk m k) (lks (mades ((List.range k).map (srcE Ls base)) (mk m k)))) (hl : ∀ j, j < k → (srcE Ls base j).look.Ok) : ((goes base term m Ls H k).put A c).Reads w := by
  have hm : mk m k ≤ k := by unfold mk; omega
  refine ⟨show base + 1 + k < _ by omega, ht, show base + 1 + H < _ by omega, hs.kd, hs.look, hs.da, ownsRow_rd ho, mades_len _ _ (by simp; omega), fun l hm => ?_⟩
  have hm2 : l ∈ mades ((List.range k).map (srcE Ls base)) (mk m k) := hm
  unfold mades at hm2
  obtain ⟨d, hd, rfl⟩ := List.mem_map.1 hm2
  obtain ⟨j, hj, rfl⟩ := List.mem_map.1 (List.mem_reverse.1 (List.mem_of_mem_take hd))
  exact hl j (List.mem_range.1 hj)
theorem goes_snoc {Ls : List Li} {base term H k : Nat} {m : Int} {es : List En} {A : Option Addr} {c : Nat} (hl : es.length = k) (hg : ∀ (j : Nat), j < k → ∃ A' c', es[j]? = some ((goes base term m Ls H j).put A' c')) : ∀ (j : Nat), j < k + 1 → ∃ A' c', (es ++ [(goes base term m Ls H k).put A c])[j]? = some ((goes base term m Ls H j).put A' c') := by
  intro j hj
  rcases Nat.lt_or_ge j k with h | h
  · obtain ⟨A', c', h2⟩ := hg j h
    exact ⟨A', c', by rw [List.getElem?_append_left (by omega)]; exact h2⟩
  · obtain rfl : j = k := by omega
    exact ⟨A, c, by rw [List.getElem?_append_right (by omega), show j - es.length = 0 by omega]; rfl⟩
theorem goes_cells {Ls : List Li} {base term H k : Nat} {m : Int} {A : Option Addr} {c : Nat} {e : En} {KD CL RQ FR CT DA : Value} (hs : srcE Ls base k = e) (hk : (Value.int .i64 e.kd) = KD := by rfl) (hcl : (Value.int .u64 (e.cl : Int)) = CL := by rfl) (hrq : (Value.int .u64 (e.rq : Int)) = RQ := by rfl) (hfr : (Value.int .u32 (e.fr : Int)) = FR := by rfl) (hct : (Value.int .u32 (e.ct : Int)) = CT := by rfl) (hda : Value.string (str e.da) = DA := by rfl) :
    ens [(goes base term m Ls H k).put A c] = (#[.int .u64 ((base : Int) + 1 + (k : Int)), .int .u64 (term : Int), .int .u64 ((base : Int) + (H : Int) + 1), KD, CL, RQ, FR, CT, DA, .slice A (mk m k) c] : Array Value).toList := by
  subst hs hk hcl hrq hfr hct hda
  have e1 : ((base + 1 + k : Nat) : Int) = (base : Int) + 1 + (k : Int) := by omega
  have e2 : ((base + 1 + H : Nat) : Int) = (base : Int) + (H : Int) + 1 := by omega
  rw [← e1, ← e2]
  rfl
theorem put_has {Ls : List Li} {base k : Nat} {o : Option En} (h : bst Ls (base + 1 + k) = o) : srcE Ls base k = o.getD ⟨base + 1 + k, 0, 0, 2, 0, 0, 0, 0, [], none, 0, 0, []⟩ := by unfold srcE; rw [h]
set_option maxHeartbeats 8000000 in
theorem rmerge_any {w : World} {A : Option Addr} {n c : Nat} {Ls : List Li} (h : Slc Li.lay w A n c Ls) (hf : (flat Ls).length ≤ 1000) (base term : Nat) (hb : base ≤ 4611686018427387904) (ht : term < 18446744073709551616) (m : Int) :
    Calls Try.prog 17 #[.int .u64 (base : Int), .int .u64 (term : Int), .int .i64 m, .slice A n c] w (TMerge w base term m Ls) := by
  have HLA := Lib.hid (rlast_any h hf base hb)
  have HBE := Lib.hid (fun W (hb' : Below w.heap.size w W) x (hx : x < 18446744073709551616) => rbest_any (h.below hb') hf x hx)
  have HRD := Lib.hid (flat_reads h)
  have HT := Lib.hid ht
  have hbi : (base : Int) ≤ 4611686018427387904 := by omega
  have hbi0 : (0 : Int) ≤ (base : Int) := by omega
  have hH192 := hadN_le (hasE Ls base) 192
  obtain ⟨H, hH⟩ : ∃ H, hadN (hasE Ls base) 192 = H := ⟨_, rfl⟩
  unfold TMerge
  rw [hH] at HLA hH192 ⊢
  have hHi : (H : Int) ≤ 192 := by omega
  have hEnd : ((base + H : Nat) : Int) = (base : Int) + (H : Int) := by omega
  rw [hEnd] at HLA
  clear h hf ht hb hH hEnd
  have v1 : IntKind.u64.wrap ((base : Int) + 1) = (base : Int) + 1 := u64w _ (by omega) (by omega)
  go_enter Try.func17, Try.ntmps17
  go_wp2_with (first
    | (go_at_call 33; refine HLA.out.mono ?_; rintro e w1 ⟨rfl, hb1⟩; have HB1 := Lib.hid hb1; clear hb1)
    | fail)
  go_loopw [9, 11, 13] (fun ov iv _ wr => ∃ (k : Nat) (es : List En), k ≤ H ∧ iv = .int .u64 ((base : Int) + 1 + (k : Int)) ∧ Hid (es.length = k) ∧ Hid (∀ (j : Nat), j < k → ∃ A' c', es[j]? = some ((goes base term m Ls H j).put A' c')) ∧ Hid (M1 w wr ov es)) (fun _ iv _ _ => base + 1 + H - (intOf iv).toNat)
  case atStart => exact ⟨0, [], Nat.zero_le _, by show _ = Value.int .u64 ((base : Int) + 1 + ((0 : Nat) : Int)); simp, Lib.hid rfl, Lib.hid (fun j h => absurd h (Nat.not_lt_zero _)), Lib.hid ⟨HB1.out, World.ownsRow_nil w1 _ _ _, fun _ h => (by cases h), fun _ h => (by cases h)⟩⟩
  case round =>
    obtain ⟨k, es, hk, rfl, HLE, HG, HM⟩ := hrel
    by_cases hlt : k < H
    · have hki : (base : Int) + 1 + (k : Int) ≤ (base : Int) + (H : Int) := by omega
      have v2 : IntKind.u64.wrap ((base : Int) + (H : Int) + 1) = (base : Int) + (H : Int) + 1 := u64w _ (by omega) (by omega)
      have v3 : IntKind.u64.wrap ((base : Int) + 1 + (k : Int) + 1) = (base : Int) + 1 + (k : Int) + 1 := u64w _ (by omega) (by omega)
      have hBE := HBE.out wr HM.out.bel (base + 1 + k) (by omega)
      rw [show ((base + 1 + k : Nat) : Int) = (base : Int) + 1 + (k : Int) by omega] at hBE
      have HLT := Lib.hid hlt
      obtain ⟨A0, c0, hv0⟩ := ownsRow_form HM.out.own
      subst hv0
      rw [HLE.out] at HM ⊢
      have hk192 : (k : Int) ≤ 192 := by omega
      clear hlt
      cases hbq : bst Ls (base + 1 + k) with
      | none =>
        rw [hbq] at hBE
        have HS := Lib.hid (put_has hbq)
        unfold curE Ez enNil En.cells at hBE
        dsimp only [Option.getD_none, Option.isSome_none] at hBE
        have HBQ := Lib.hid hBE
        clear hBE hbq
        go_wp2_with (first
          | (go_at_call 11; refine HBQ.out.mono ?_; rintro e w2 ⟨rfl, hb2⟩
             have HM2 := Lib.hid (HM.out.below hb2)
             clear hb2)
          | fail)
        obtain ⟨W9, hW9, _, r12, hb9⟩ := row1 w2 #[.int .u64 0, .int .u64 0, .int .u64 0, .int .i64 2, .int .u64 0, .int .u64 0, .int .u32 0, .int .u32 0, .string ⟨#[]⟩, .slice none 0 0] 29
        rw [← hW9]
        have hp12 := fun q (e : (Value.slice A0 k c0).ownBlock = some q) => (HM2.out.own.lt q e).2
        have hm9 := (HM2.out.below hb9).drew
        obtain ⟨p12, hq12⟩ : ∃ p12, w2.heap.size = p12 := ⟨_, rfl⟩
        rw [hq12] at r12 hp12 ⊢
        have HP12 := Lib.hid hp12
        have HM9 := Lib.hid hm9
        have R12 := Lib.hid r12
        clear hW9 hb9 hq12 hp12 hm9
        refine wp_segs [([0, 1, 2, 3, 4, 5, 6, 7, 8, 9, 10, 11, 12, 13, 14, 15, 16], 17), ([18], 19), ([], 20)] [21] (fun y => y.heap[p12]? = some (.cells #[.int .u64 0, .int .u64 0, .int .u64 0, .int .i64 2, .int .u64 0, .int .u64 0, .int .u32 0, .int .u32 0, .string ⟨#[]⟩, .slice none 0 0] 29 (0, 0))) (by kernel_rfl) (by kernel_rfl) (fun d _ _ _ _ h => by cases d <;> exact h) r12 ?_
        clear r12
        intro q hq
        have d0 := fun z => cell_of_row (q z) p12 0 _ _ _ (hq z)
        have d1 := fun z => cell_of_row (q z) p12 1 _ _ _ (hq z)
        have d2 := fun z => cell_of_row (q z) p12 2 _ _ _ (hq z)
        have d3 := fun z => cell_of_row (q z) p12 3 _ _ _ (hq z)
        have d4 := fun z => cell_of_row (q z) p12 4 _ _ _ (hq z)
        have d5 := fun z => cell_of_row (q z) p12 5 _ _ _ (hq z)
        have d6 := fun z => cell_of_row (q z) p12 6 _ _ _ (hq z)
        have d7 := fun z => cell_of_row (q z) p12 7 _ _ _ (hq z)
        have d8 := fun z => cell_of_row (q z) p12 8 _ _ _ (hq z)
        have d9 := fun z => cell_of_row (q z) p12 9 _ _ _ (hq z)
        simp only [pickI, Option.toList_some, List.cons_append, List.nil_append, List.getElem?_toArray, List.getElem?_cons_succ, List.getElem?_cons_zero]
        try go_frame
        go_big_quiet_step (fail)
        go_big_quiet_step (fail)
        go_big_quiet_step (fail)
        go_big_quiet_step (fail)
        go_big_quiet_step (fail)
        go_big_quiet_step (fail)
        go_big_quiet_step (fail)
        go_big_quiet_step (fail)
        go_big_quiet_step (fail)
        go_big_quiet_step (fail)
        go_big_quiet_step (fail)
        go_big_quiet_step (fail)
        go_big_quiet_step (fail)
        go_big_quiet_step (fail)
        go_big_quiet_step (fail)
        go_big_quiet_step (fail)
        go_big_quiet_step (fail)
        refine wpQuiet_nil ?_
        clear hq q d0 d1 d2 d3 d4 d5 d6 d7 d8 d9
        refine seg_op (by simp only [List.getElem?_toArray, List.getElem?_cons_succ, List.getElem?_cons_zero]; rfl) fun K hK => ?_
        go_simp
        refine (rmake_any (w := W9.drew) (HM9.out.ents HLE.out) (by omega) m).mono ?_
        rintro e w3 ⟨v3, rfl, hown3, hb3⟩
        obtain ⟨A3, c3, rfl⟩ := ownsRow_form hown3
        have hS3 : w3.heap[p12]? = some _ := row_below (w := W9.drew) R12.out hb3
        have HM3 := Lib.hid (HM9.out.below hb3)
        have hlo := fun q (e : (Value.slice A3 (mk m k) c3).ownBlock = some q) => (hown3.lt q e).1
        have HLO := Lib.hid (fun q (e : (Value.slice A3 (mk m k) c3).ownBlock = some q) => Nat.lt_of_lt_of_le (Array.getElem?_eq_some_iff.1 R12.out).1 (hlo q e))
        have hmd : mades es (mk m k) = mades ((List.range k).map (srcE Ls base)) (mk m k) := made_list HLE.out HG.out
        rw [hmd] at hown3
        have HO3 := Lib.hid hown3
        clear hlo hmd hb3 hown3
        refine hK.out _ _ (seg_keep hS3 ?_)
        clear hK K
        intro q hq
        simp only [pickI, Option.toList_some, List.cons_append, List.nil_append, List.getElem?_toArray, List.getElem?_cons_succ, List.getElem?_cons_zero]
        try go_frame
        go_big_quiet_step (fail)
        refine wpQuiet_nil ?_
        clear hq q
        refine seg_op (by simp only [List.getElem?_toArray, List.getElem?_cons_succ, List.getElem?_cons_zero]; rfl) fun K hK => ?_
        go_simp
        have hb4 : Below w3.heap.size w3 (w3.alloc (.cells #[.int .u64 ((base : Int) + 1 + (k : Int)), .int .u64 (term : Int), .int .u64 ((base : Int) + (H : Int) + 1), .int .i64 2, .int .u64 0, .int .u64 0, .int .u32 0, .int .u32 0, .string ⟨#[]⟩, .slice A3 (mk m k) c3] 29)) := (Below.refl _ _).alloc (Nat.le_refl _) _
        have hS4 := row_below hS3 hb4
        have HM4 := Lib.hid (HM3.out.below hb4)
        have HO4 := Lib.hid (owns_below HO3.out hb4)
        refine hK.out _ _ (seg_keep hS4 ?_)
        clear hK K
        intro q hq
        refine wpQuiet_nil ?_
        clear hq q
        refine seg_op (by simp only [List.getElem?_toArray, List.getElem?_cons_succ, List.getElem?_cons_zero]; rfl) fun K hK => ?_
        rw [if_pos (by rfl)]
        refine wp_app2 (m := 1) (v := .slice A0 k c0) (y := .slice (some ⟨w3.heap.size, 0, none⟩) 1 1) (.tmp 33) (.tmp 52) _ _ rfl E_en (by rfl) (by rfl) (own_k HLE.out HM4.out.own) (Src.lit' rfl (n := 1) (sz := 10) Try.underlying32 #[.int .u64 ((base : Int) + 1 + (k : Int)), .int .u64 (term : Int), .int .u64 ((base : Int) + (H : Int) + 1), .int .i64 2, .int .u64 0, .int .u64 0, .int .u32 0, .int .u32 0, .string ⟨#[]⟩, .slice A3 (mk m k) c3] rfl (by simp [Value.oneCell'])) (by unfold maxLen; omega) (by omega) (Nat.le_trans HM3.out.bel.size hb4.size) ?_
        intro v4 w4 hown4 hg4 hat4
        have hS5 := row_far hS4 hg4 (fun e => by have := HP12.out p12 e.symm; omega)
        have hens : ens [(goes base term m Ls H k).put A3 c3] = (#[.int .u64 ((base : Int) + 1 + (k : Int)), .int .u64 (term : Int), .int .u64 ((base : Int) + (H : Int) + 1), .int .i64 2, .int .u64 0, .int .u64 0, .int .u32 0, .int .u32 0, .string ⟨#[]⟩, .slice A3 (mk m k) c3] : Array Value).toList := goes_cells HS.out
        rw [← hens] at hown4
        have HM5 := Lib.hid (HM4.out.app (v' := v4) (e := (goes base term m Ls H k).put A3 c3) (by rw [HLE.out]; exact hown4) hg4 hat4 (goes_reads (src_reads (fun e he => (HRD.out e he).below HM4.out.bel) (by omega)) HT.out (by omega) HO4.out (fun j hj => (src_reads (fun e he => (HRD.out e he).below HM4.out.bel) (by omega)).look)) (fun _ x hA e => by
          have h1 := HP12.out x.block e
          have h2 := HLO.out x.block (by rw [show A3 = some x from hA]; rfl)
          omega))
        refine hK.out _ _ (seg_keep hS5 ?_)
        clear hK K hS3 hS4 hS5 hb4 hown4 hg4 hat4 hens
        intro q hq
        simp only [pickI, Option.toList_some, List.cons_append, List.nil_append, List.getElem?_toArray, List.getElem?_cons_succ, List.getElem?_cons_zero]
        try go_frame
        go_big_quiet_step (fail)
        refine wpQuiet_nil ?_
        clear hq q
        go_wp2
        go_roundw
        case rel => exact ⟨k + 1, es ++ [(goes base term m Ls H k).put A3 c3], HLT.out, by go_num, Lib.hid (by rw [List.length_append, HLE.out]; rfl), Lib.hid (goes_snoc HLE.out HG.out), HM5⟩
        case measure => have := HLT.out; simp [intOf]; omega
      | some e0 =>
        rw [hbq] at hBE
        have HS := Lib.hid (put_has hbq)
        have hr0 := HRD.out e0 (bestOf_mem hbq)
        have HR0 := Lib.hid hr0
        unfold curE at hBE
        dsimp only [Option.getD_some, Option.isSome_some] at hBE
        obtain ⟨ix, tm, st, kd, cl, rq, fr, ct, da, A1, bn, bc, ls⟩ := e0
        unfold En.cells at hBE
        dsimp only at hBE
        have HBQ := Lib.hid hBE
        clear hBE hbq hr0
        go_wp2_with (first
          | (go_at_call 11; refine HBQ.out.mono ?_; rintro e w2 ⟨rfl, hb2⟩
             have HM2 := Lib.hid (HM.out.below hb2)
             clear hb2)
          | fail)
        obtain ⟨W9, hW9, _, r12, hb9⟩ := row1 w2 #[.int .u64 (ix : Int), .int .u64 (tm : Int), .int .u64 (st : Int), .int .i64 kd, .int .u64 (cl : Int), .int .u64 (rq : Int), .int .u32 (fr : Int), .int .u32 (ct : Int), .string (str da), .slice A1 bn bc] 29
        rw [← hW9]
        have hp12 := fun q (e : (Value.slice A0 k c0).ownBlock = some q) => (HM2.out.own.lt q e).2
        have hm9 := (HM2.out.below hb9).drew
        obtain ⟨p12, hq12⟩ : ∃ p12, w2.heap.size = p12 := ⟨_, rfl⟩
        rw [hq12] at r12 hp12 ⊢
        have HP12 := Lib.hid hp12
        have HM9 := Lib.hid hm9
        have R12 := Lib.hid r12
        clear hW9 hb9 hq12 hp12 hm9
        refine wp_segs [([0, 1, 2, 3, 4, 5, 6, 7, 8, 9, 10, 11, 12, 13, 14, 15, 16], 17), ([18], 19), ([], 20)] [21] (fun y => y.heap[p12]? = some (.cells #[.int .u64 (ix : Int), .int .u64 (tm : Int), .int .u64 (st : Int), .int .i64 kd, .int .u64 (cl : Int), .int .u64 (rq : Int), .int .u32 (fr : Int), .int .u32 (ct : Int), .string (str da), .slice A1 bn bc] 29 (0, 0))) (by kernel_rfl) (by kernel_rfl) (fun d _ _ _ _ h => by cases d <;> exact h) r12 ?_
        clear r12
        intro q hq
        have d0 := fun z => cell_of_row (q z) p12 0 _ _ _ (hq z)
        have d1 := fun z => cell_of_row (q z) p12 1 _ _ _ (hq z)
        have d2 := fun z => cell_of_row (q z) p12 2 _ _ _ (hq z)
        have d3 := fun z => cell_of_row (q z) p12 3 _ _ _ (hq z)
        have d4 := fun z => cell_of_row (q z) p12 4 _ _ _ (hq z)
        have d5 := fun z => cell_of_row (q z) p12 5 _ _ _ (hq z)
        have d6 := fun z => cell_of_row (q z) p12 6 _ _ _ (hq z)
        have d7 := fun z => cell_of_row (q z) p12 7 _ _ _ (hq z)
        have d8 := fun z => cell_of_row (q z) p12 8 _ _ _ (hq z)
        have d9 := fun z => cell_of_row (q z) p12 9 _ _ _ (hq z)
        simp only [pickI, Option.toList_some, List.cons_append, List.nil_append, List.getElem?_toArray, List.getElem?_cons_succ, List.getElem?_cons_zero]
        try go_frame
        go_big_quiet_step (fail)
        go_big_quiet_step (fail)
        go_big_quiet_step (fail)
        go_big_quiet_step (fail)
        go_big_quiet_step (fail)
        go_big_quiet_step (fail)
        go_big_quiet_step (fail)
        go_big_quiet_step (fail)
        go_big_quiet_step (fail)
        go_big_quiet_step (fail)
        go_big_quiet_step (fail)
        go_big_quiet_step (fail)
        go_big_quiet_step (fail)
        go_big_quiet_step (fail)
        go_big_quiet_step (fail)
        go_big_quiet_step (fail)
        go_big_quiet_step (fail)
        refine wpQuiet_nil ?_
        clear hq q d0 d1 d2 d3 d4 d5 d6 d7 d8 d9
        refine seg_op (by simp only [List.getElem?_toArray, List.getElem?_cons_succ, List.getElem?_cons_zero]; rfl) fun K hK => ?_
        go_simp
        refine (rmake_any (w := W9.drew) (HM9.out.ents HLE.out) (by omega) m).mono ?_
        rintro e w3 ⟨v3, rfl, hown3, hb3⟩
        obtain ⟨A3, c3, rfl⟩ := ownsRow_form hown3
        have hS3 : w3.heap[p12]? = some _ := row_below (w := W9.drew) R12.out hb3
        have HM3 := Lib.hid (HM9.out.below hb3)
        have hlo := fun q (e : (Value.slice A3 (mk m k) c3).ownBlock = some q) => (hown3.lt q e).1
        have HLO := Lib.hid (fun q (e : (Value.slice A3 (mk m k) c3).ownBlock = some q) => Nat.lt_of_lt_of_le (Array.getElem?_eq_some_iff.1 R12.out).1 (hlo q e))
        have hmd : mades es (mk m k) = mades ((List.range k).map (srcE Ls base)) (mk m k) := made_list HLE.out HG.out
        rw [hmd] at hown3
        have HO3 := Lib.hid hown3
        clear hlo hmd hb3 hown3
        refine hK.out _ _ (seg_keep hS3 ?_)
        clear hK K
        intro q hq
        simp only [pickI, Option.toList_some, List.cons_append, List.nil_append, List.getElem?_toArray, List.getElem?_cons_succ, List.getElem?_cons_zero]
        try go_frame
        go_big_quiet_step (fail)
        refine wpQuiet_nil ?_
        clear hq q
        refine seg_op (by simp only [List.getElem?_toArray, List.getElem?_cons_succ, List.getElem?_cons_zero]; rfl) fun K hK => ?_
        go_simp
        have hb4 : Below w3.heap.size w3 (w3.alloc (.cells #[.int .u64 ((base : Int) + 1 + (k : Int)), .int .u64 (term : Int), .int .u64 ((base : Int) + (H : Int) + 1), .int .i64 kd, .int .u64 (cl : Int), .int .u64 (rq : Int), .int .u32 (fr : Int), .int .u32 (ct : Int), .string (str da), .slice A3 (mk m k) c3] 29)) := (Below.refl _ _).alloc (Nat.le_refl _) _
        have hS4 := row_below hS3 hb4
        have HM4 := Lib.hid (HM3.out.below hb4)
        have HO4 := Lib.hid (owns_below HO3.out hb4)
        refine hK.out _ _ (seg_keep hS4 ?_)
        clear hK K
        intro q hq
        refine wpQuiet_nil ?_
        clear hq q
        refine seg_op (by simp only [List.getElem?_toArray, List.getElem?_cons_succ, List.getElem?_cons_zero]; rfl) fun K hK => ?_
        rw [if_pos (by rfl)]
        refine wp_app2 (m := 1) (v := .slice A0 k c0) (y := .slice (some ⟨w3.heap.size, 0, none⟩) 1 1) (.tmp 33) (.tmp 52) _ _ rfl E_en (by rfl) (by rfl) (own_k HLE.out HM4.out.own) (Src.lit' rfl (n := 1) (sz := 10) Try.underlying32 #[.int .u64 ((base : Int) + 1 + (k : Int)), .int .u64 (term : Int), .int .u64 ((base : Int) + (H : Int) + 1), .int .i64 kd, .int .u64 (cl : Int), .int .u64 (rq : Int), .int .u32 (fr : Int), .int .u32 (ct : Int), .string (str da), .slice A3 (mk m k) c3] rfl (by simp [Value.oneCell'])) (by unfold maxLen; omega) (by omega) (Nat.le_trans HM3.out.bel.size hb4.size) ?_
        intro v4 w4 hown4 hg4 hat4
        have hS5 := row_far hS4 hg4 (fun e => by have := HP12.out p12 e.symm; omega)
        have hens : ens [(goes base term m Ls H k).put A3 c3] = (#[.int .u64 ((base : Int) + 1 + (k : Int)), .int .u64 (term : Int), .int .u64 ((base : Int) + (H : Int) + 1), .int .i64 kd, .int .u64 (cl : Int), .int .u64 (rq : Int), .int .u32 (fr : Int), .int .u32 (ct : Int), .string (str da), .slice A3 (mk m k) c3] : Array Value).toList := goes_cells HS.out
        rw [← hens] at hown4
        have HM5 := Lib.hid (HM4.out.app (v' := v4) (e := (goes base term m Ls H k).put A3 c3) (by rw [HLE.out]; exact hown4) hg4 hat4 (goes_reads (src_reads (fun e he => (HRD.out e he).below HM4.out.bel) (by omega)) HT.out (by omega) HO4.out (fun j hj => (src_reads (fun e he => (HRD.out e he).below HM4.out.bel) (by omega)).look)) (fun _ x hA e => by
          have h1 := HP12.out x.block e
          have h2 := HLO.out x.block (by rw [show A3 = some x from hA]; rfl)
          omega))
        refine hK.out _ _ (seg_keep hS5 ?_)
        clear hK K hS3 hS4 hS5 hb4 hown4 hg4 hat4 hens
        intro q hq
        simp only [pickI, Option.toList_some, List.cons_append, List.nil_append, List.getElem?_toArray, List.getElem?_cons_succ, List.getElem?_cons_zero]
        try go_frame
        go_big_quiet_step (fail)
        refine wpQuiet_nil ?_
        clear hq q
        go_wp2
        go_roundw
        case rel => exact ⟨k + 1, es ++ [(goes base term m Ls H k).put A3 c3], HLT.out, by go_num, Lib.hid (by rw [List.length_append, HLE.out]; rfl), Lib.hid (goes_snoc HLE.out HG.out), HM5⟩
        case measure => have := HLT.out; simp [intOf]; omega
    · obtain rfl : k = H := by omega
      obtain ⟨A0, c0, hv0⟩ := ownsRow_form HM.out.own
      subst hv0
      rw [HLE.out] at HM ⊢
      have v2 : IntKind.u64.wrap ((base : Int) + 1 + (k : Int)) = (base : Int) + 1 + (k : Int) := u64w _ (by omega) (by omega)
      go_wp2
      go_ret
      exact ⟨_, _, es, rfl, HM.out.ents HLE.out, HG.out, HM.out.bel⟩
end Go.Proofs.Ytoopeppcmoolgaa

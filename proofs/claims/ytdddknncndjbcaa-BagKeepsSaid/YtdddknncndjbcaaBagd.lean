/- slices.Delete of one number; Take. -/
import Derived.Test.YtdddknncndjbcaaBagb
namespace Go.Proofs.Ytdddknncndjbcaa
open Go.RowKit
section
variable {P : Program} {w : World}
/-- append into a row that has room. -/
theorem run_app_in {base m n cap g sz bt : Nat} {t tx ty e : TypeId} {z x : Value} {xs news : List Value} (hT : Elem P t e z sz bt) (hown : w.ownsRow base e sz (.slice (some ⟨g, 0, none⟩) n cap) n xs) (hs : Src P sz tx x m news w) (hroom : n + m ≤ cap) :
    ∃ w', (Builtin.append_ #[t, tx] ty #[.slice (some ⟨g, 0, none⟩) n cap, x]).run P w = .ok (.slice (some ⟨g, 0, none⟩) (n + m) cap) w' ∧ w'.ownsRow base e sz (.slice (some ⟨g, 0, none⟩) (n + m) cap) (n + m) (xs ++ news) ∧ w.grownBy w' (some g) := by
  obtain ⟨ht, ⟨i, hi, hz, rfl, rfl⟩, hzs, hsz⟩ := hT
  have hlen : (xs ++ news).length = (n + m) * i.size := by rw [List.length_append, hown.1, hs.newsLen, Nat.add_mul]
  have hl := hs.newsLen
  rcases hown.2 with ⟨hv, rfl⟩ | ⟨g', cap', cur, hv, hbg, hg, hnc, hcm, hcs, htake⟩
  · cases hv
  · cases hv
    have hfit : n * i.size + news.length ≤ cur.size := by rw [hl, hcs, ← Nat.add_mul]; exact Nat.mul_le_mul_right _ hroom
    have hst := run_storeCells_at P g (n * i.size) e news 0 cur w hg (by simpa using hfit) hs.one
    simp only [Nat.add_zero] at hst
    have hr : (Builtin.append_ #[t, tx] ty #[.slice (some ⟨g, 0, none⟩) n cap, x]).run P w =
        .ok (.slice (some ⟨g, 0, none⟩) (n + m) cap) (w.setRow g (cur.toList.take (n * i.size) ++ news ++ cur.toList.drop (n * i.size + news.length)).toArray) := by
      rcases hs.kind with ⟨e', hk⟩ | hk <;> simp [Builtin.append_, run_underlying ht, run_underlying hk, sizeOf, typeInfo, hi, hs.len, hroom, hs.cells, Addr.add_lit, hst]
    refine ⟨_, hr, ⟨hlen, .inr ⟨g, cap, _, rfl, hbg, setRow_heap w g cur _ e _ hg, hroom, hcm, ?_, ?_⟩⟩, ⟨rfl, rfl, rfl, by simp, fun k _ hk => setRow_other w g k _ (fun e => hk (by rw [e]))⟩⟩
    · simp only [List.size_toArray, List.length_append, List.length_take, List.length_drop, Array.length_toList]
      omega
    · rw [htake, ← hlen]
      exact List.take_left
theorem ownsRow_pre {base n k cap g : Nat} {e : TypeId} {xs : List Value} (h : w.ownsRow base e 1 (.slice (some ⟨g, 0, none⟩) n cap) n xs) (hk : k ≤ n) : w.ownsRow base e 1 (.slice (some ⟨g, 0, none⟩) k cap) k (xs.take k) := by
  have hl := h.1
  rcases h.2 with ⟨hv, rfl⟩ | ⟨g', cap', cur, hv, hbg, hg, hnc, hcm, hcs, htake⟩
  · cases hv
  · cases hv
    refine ⟨by rw [List.length_take]; omega, .inr ⟨g, cap, cur, rfl, hbg, hg, by omega, hcm, hcs, ?_⟩⟩
    rw [← htake, List.take_take]
    congr 1
    omega
/-- What lies behind the elements does not matter. -/
theorem ownsRow_past {base n cap g i : Nat} {e : TypeId} {xs : List Value} (h : w.ownsRow base e 1 (.slice (some ⟨g, 0, none⟩) n cap) n xs) (hi : n ≤ i) (u : Value) : (w.setCell ⟨g, i, none⟩ u).ownsRow base e 1 (.slice (some ⟨g, 0, none⟩) n cap) n xs := by
  have hl := h.1
  rcases h.2 with ⟨hv, rfl⟩ | ⟨g', cap', cur, hv, hbg, hg, hnc, hcm, hcs, htake⟩
  · cases hv
  · cases hv
    refine ⟨hl, .inr ⟨g, cap, cur.setIfInBounds i u, rfl, hbg, heap_setCell_same w g i cur e u hg, hnc, hcm, by simpa using hcs, ?_⟩⟩
    rw [← htake, Array.toList_setIfInBounds, List.take_set_of_le (by omega)]
theorem wp_app_in {o : Oper} {a : Act} {K : Act → World → Prop} {Q : Exit → Act → World → Prop} (s x : Operand) (t tx : TypeId)
    (ho : o.op = .call { callee := .builtin .append, args := #[s, x], argTypes := #[t, tx] })
    {base m n cap g sz bt : Nat} {e : TypeId} {z y : Value} {xs news : List Value} (hT : Elem P t e z sz bt) (hs : a.eval s = .slice (some ⟨g, 0, none⟩) n cap) (hx : a.eval x = y) (hown : w.ownsRow base e sz (.slice (some ⟨g, 0, none⟩) n cap) n xs) (hsrc : Src P sz tx y m news w)
    (hroom : n + m ≤ cap)
    (h : ∀ w', w'.ownsRow base e sz (.slice (some ⟨g, 0, none⟩) (n + m) cap) (n + m) (xs ++ news) → w.grownBy w' (some g) → K (a.put o.dst (.slice (some ⟨g, 0, none⟩) (n + m) cap)) w') : o.wp P a w K Q := by
  obtain ⟨w', hr, h1, h2⟩ := run_app_in (ty := o.type) hT hown hsrc hroom
  unfold Oper.wp execOp
  simp only [ho, resolve, invoke, builtin, Sem.run_bind, Sem.run_pure, Result.andThen_ok, List.map_toArray, List.map_cons, List.map_nil, hs, hx, hr]
  exact h _ h1 h2
end
theorem wpL_clr {P : Program} {ops : Array Oper} {rest : List Oper} {o : Oper} {a : Act} {w w' : World} {Q : Exit → Act → World → Prop} (hgd : o.guard = none) (x : Operand) (t : TypeId) (ho : o.op = .call { callee := .builtin .clear, args := #[x], argTypes := #[t] }) {y : Value} (hx : a.eval x = y)
    (hr : (Builtin.clear_ #[t] o.type #[y]).run P w = .ok (.tuple #[]) w') (h : wpList P ops Q rest (a.put o.dst (.tuple #[])) w') : wpList P ops Q (o :: rest) a w := by
  refine wpList_plain hgd fun K hK => ?_
  unfold Oper.wp execOp
  simp only [ho, resolve, invoke, builtin, Sem.run_bind, Sem.run_pure, Result.andThen_ok, List.map_toArray, List.map_cons, List.map_nil, hx, hr]
  exact hK _ _ h
theorem drew_own {w : World} {B n sz : Nat} {e : TypeId} {v : Value} {xs : List Value} (h : w.ownsRow B e sz v n xs) : w.drew.ownsRow B e sz v n xs := h
theorem drew_grown {w w' : World} {row : Option Nat} (h : w.drew.grownBy w' row) : w.grownBy w' row := ⟨h.os, h.tape, h.output, h.size, h.block⟩
theorem zero_int (w : World) : (zeroValue 3).run Try.prog w = .ok (.int .i64 0) w := by kernel_rfl
theorem delete_any {w : World} {B q n c : Nat} {l : List Int} (h : w.ownsRow B 3 1 (.slice (some ⟨q, 0, none⟩) n c) n (is l)) (i : Nat) (hi : i < n) (hn : n ≤ 1000) :
    Calls Try.prog 19 #[.slice (some ⟨q, 0, none⟩) n c, .int .i64 (i : Int), .int .i64 ((i : Int) + 1)] w fun e w' => e = .returned (.slice (some ⟨q, 0, none⟩) (n - 1) c) ∧ w'.ownsRow B 3 1 (.slice (some ⟨q, 0, none⟩) (n - 1) c) (n - 1) (is (l.take i ++ l.drop (i + 1))) ∧ w.grownBy w' (some q) := by
  have hl : l.length = n := by have := h.1; rw [is_len] at this; omega
  have hrd := ownsRow_rd h
  have hnc := hrd.1
  have hcm := hrd.2.1
  obtain ⟨j, hj⟩ : ∃ j, j = i + 1 := ⟨_, rfl⟩
  rw [← hj, show (i : Int) + 1 = (j : Int) by omega]
  obtain ⟨A, hA, hsrc⟩ : ∃ A : Addr, (if c = j then some (⟨q, 0, none⟩ : Addr) else some ⟨q, j, none⟩) = some A ∧ Hid (∀ w1, (∀ o, w1.cell? ⟨q, o, none⟩ = w.cell? ⟨q, o, none⟩) → Src Try.prog 1 26 (.slice (some A) (n - j) (c - j)) (n - j) (is (l.drop j)) w1) := by
    by_cases hc : c = j
    · refine ⟨⟨q, 0, none⟩, by simp [hc], Lib.hid fun w1 _ => ?_⟩
      have h0 : n - j = 0 := by omega
      have h1 : l.drop j = [] := List.drop_eq_nil_of_le (by omega)
      rw [h0, h1]
      exact Src.ofSlice w1 Try.underlying26 _ 0 _ [] rfl (fun k u hu => by simp at hu) (fun u hu => by cases hu)
    · refine ⟨⟨q, j, none⟩, by simp [hc], Lib.hid fun w1 hw => ?_⟩
      refine Src.ofSlice w1 Try.underlying26 _ (n - j) _ _ (by rw [is_len, List.length_drop]; omega) (fun k u hu => ?_) (is_one _)
      rw [addOff, hw]
      rw [is_drop, List.getElem?_drop] at hu
      obtain ⟨b, o, hb, _, hcell⟩ := hrd.2.2.2 (by omega)
      cases hb
      have := hcell (j + k) u hu
      rwa [Nat.zero_add] at this
  have HP := Lib.hid (ownsRow_pre h (k := i) (by omega))
  have HH := Lib.hid h
  have q1 : ((i : Int) == (j : Int)) = false := by simp; omega
  have q2 : i ≤ j := by omega
  have q3 : j ≤ n := by omega
  have q4 : i ≤ n := by omega
  have q5 : j ≤ c := by omega
  have q6 : i ≤ c := by omega
  have q7 : ¬ n = i := by omega
  have HJ := Lib.hid hj
  have HL := Lib.hid hl
  have HI := Lib.hid hi
  clear h hrd hj hl hi
  go_enter Try.func19, Try.ntmps19
  go_wp2_with (fail)
  refine wp_segs [([0, 1, 2, 3, 4, 5], 6)] [7] (fun _ => True) (by kernel_rfl) (by kernel_rfl) (fun d _ _ _ _ h => by cases d <;> exact h) trivial ?_
  intro f hf
  simp only [pickI, Option.toList_some, List.cons_append, List.nil_append, List.getElem?_toArray, List.getElem?_cons_succ, List.getElem?_cons_zero]
  repeat (go_big_quiet_step (fail))
  refine wpQuiet_nil ?_
  clear hf f
  refine seg_op (by simp only [List.getElem?_toArray, List.getElem?_cons_succ, List.getElem?_cons_zero]; rfl) fun K hK => ?_
  rw [if_pos (by rfl)]
  refine wp_app_in (.tmp 22) (.tmp 25) _ _ rfl Ei rfl rfl (drew_own HP.out) (hsrc.out _ (fun _ => rfl)) (by omega) ?_
  intro w1 ho1 hg1
  obtain ⟨m, hm⟩ : ∃ m, m = i + (n - j) := ⟨_, rfl⟩
  rw [← hm] at ho1
  refine hK.out _ _ ⟨fun _ => True, trivial, fun _ h => h, ?_⟩
  rw [← hm]
  go_frame
  clear hK K
  intro f hf
  simp only [pickI, Option.toList_some, List.cons_append, List.nil_append, List.getElem?_toArray, List.getElem?_cons_succ, List.getElem?_cons_zero]
  repeat (go_big_quiet_step (fail))
  refine wpQuiet_nil ?_
  clear hf f
  have hmn : m + 1 = n := by have := HJ.out; have := HI.out; omega
  have HM := Lib.hid hmn
  have r1 : m ≤ n := by omega
  have r2 : ¬ c = m := by omega
  have HO := Lib.hid ho1
  have HG := Lib.hid hg1
  have HR : Hid (∀ ty, (Builtin.clear_ #[26] ty #[.slice (some ⟨q, m, none⟩) (n - m) (c - m)]).run Try.prog w1 = .ok (.tuple #[]) (w1.setCell ⟨q, m, none⟩ (.int .i64 0))) := by
    refine Lib.hid fun ty => ?_
    have e : n - m = 1 := by omega
    rw [e]
    obtain ⟨_, ⟨hv, _⟩ | ⟨g', cap', cur, hv, hbg, hg, hnc', hcm', hcs, htake⟩⟩ := ho1
    · cases hv
    · cases hv
      exact Lib.run_clear_slice w1 _ _ ty _ Try.underlying26 zero_int rfl rfl q m 1 _ (by omega) (fun k hk => by
        obtain rfl : k = 0 := by omega
        rw [cell_of_row w1 q (m + 0) cur _ _ hg, Array.getElem?_eq_getElem (by omega)]
        rfl) (fun k hk => frozen_of_row w1 q _ _ _ hg)
  clear hm hmn ho1 hg1 hA hsrc HP HH
  go_wp2_with (first
    | (refine wpL_clr rfl (.tmp 31) _ rfl rfl (HR.out _) ?_)
    | fail)
  go_ret
  have e : n - 1 = m := by have := HM.out; omega
  rw [e]
  refine ⟨rfl, ?_, setCell_by (drew_grown HG.out) rfl _⟩
  have := ownsRow_past HO.out (Nat.le_refl m) (.int .i64 0)
  rwa [is_app, is_take]
/-- Take. -/
theorem btake_any {w : World} {B g : Nat} {v : Value} {t : Bv} (h : Bg w B g v t) (i : Int) :
    Calls Try.prog 8 #[.pointer (some ⟨g, 0, none⟩), .int .i64 i] w fun e w' => e = .returned (.tuple #[.int .i64 (t.get i), .bool (t.inb i)]) ∧ Mv w B g v (t.take i) w' := by
  have HA := Lib.hid (at_any h i)
  have HH := Lib.hid h
  unfold Bv.take
  cases hi : t.inb i with
  | false =>
    rw [hi] at HA
    clear h
    go_enter Try.func8, Try.ntmps8
    go_wp2_with (first
      | (go_at_call 12; refine HA.out.mono ?_; rintro e w2 ⟨rfl, rfl⟩)
      | fail)
    go_ret2
    exact ⟨rfl, Mv.same HH.out (Below.refl _ _)⟩
  | true =>
    rw [hi] at HA
    obtain ⟨n, rfl⟩ : ∃ n : Nat, i = (n : Int) := ⟨i.toNat, by unfold Bv.inb at hi; simp at hi; omega⟩
    have hn : n < t.l.length := by rw [inb_nat] at hi; simpa using hi
    have hsz : t.l.length ≤ 256 := by have := h.room; have := h.most; omega
    have c0 := h.c0
    obtain ⟨A, c, rfl⟩ := h.form
    obtain ⟨q, o, _, rfl, _⟩ := (ownsRow_rd h.own).at_ hn
    obtain rfl : o = 0 := by
      rcases h.own.2 with ⟨hv, _⟩ | ⟨g', cap', cur, hv, _⟩
      · cases hv
      · cases hv; rfl
    have HD := Lib.hid (delete_any h.own n hn (by omega))
    have hn3 : (n : Int) ≤ 1000 := by omega
    have HN := Lib.hid hn
    generalize t.get (n : Int) = y at *
    clear h hi hn hsz
    go_enter Try.func8, Try.ntmps8
    go_wp2_with (first
      | (go_at_call 12; refine HA.out.mono ?_; rintro e w2 ⟨rfl, rfl⟩)
      | (go_at_call 19; refine HD.out.mono ?_; rintro e w2 ⟨rfl, ho2, hg2⟩
         have hr2 := row_far HH.out.row hg2 (fun e => HH.out.ne (by rw [e]; rfl))
         have d0 : w2.cell? ⟨g, 0, none⟩ = some _ := cell_of_row w2 g 0 _ _ _ hr2
         have f0 := frozen_of_row w2 g 0 _ _ hr2
         have HO := Lib.hid ho2
         have HG := Lib.hid hg2
         clear ho2 hg2 hr2)
      | fail)
    go_ret2
    have e : t.l.length - 1 = (t.l.take n ++ t.l.drop (n + 1)).length := by have := HN.out; rw [List.length_append, List.length_take, List.length_drop]; omega
    have ho := HO.out
    rw [e] at ho ⊢
    refine ⟨rfl, ?_⟩
    refine HH.out.things ((Keeps.refl _ _).grown HG.out (fun k hk => .inl hk)) ho (.inl rfl) ?_
    rw [← e]
    have := HH.out.room
    omega
end Go.Proofs.Ytdddknncndjbcaa

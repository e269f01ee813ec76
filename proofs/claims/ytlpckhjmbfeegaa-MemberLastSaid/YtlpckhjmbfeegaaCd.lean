/- slices.Delete of the last items. -/
import Derived.Test.YtlpckhjmbfeegaaCb
namespace Go.Proofs.Ytlpckhjmbfeegaa
open Go.RowKit
set_option maxRecDepth 20000
section
variable {P : Program} {w : World}
/-- append into a row that has room. -/
theorem run_app_in {base m n cap g sz bt : Nat} {t tx ty e : TypeId} {z x : Value} {xs news : List Value} (hT : Elem P t e z sz bt) (hown : w.ownsRow base e sz (.slice (some ⟨g, 0, none⟩) n cap) n xs) (hs : Src P sz tx x m news w) (hroom : n + m ≤ cap) :
    ∃ w', (Builtin.append_ #[t, tx] ty #[.slice (some ⟨g, 0, none⟩) n cap, x]).run P w = .ok (.slice (some ⟨g, 0, none⟩) (n + m) cap) w' ∧ w'.ownsRow base e sz (.slice (some ⟨g, 0, none⟩) (n + m) cap) (n + m) (xs ++ news) ∧ w.grownBy w' (some g) := by
  obtain ⟨ht, ⟨i, hi, hz, rfl, rfl⟩, hzs, hsz⟩ := hT
  have hlen : (xs ++ news).length = (n + m) * i.size := by rw [List.length_append, hown.1, hs.newsLen, Nat.add_mul]
  have hl := hs.newsLen
  rcases hown.2 with ⟨hv, rfl⟩ | ⟨g', cap', cur, hv, hbg, hg, hnc, hcm, hcs, htake⟩
  · cases hv
  · cases hv
    have hfit : n * i.size + news.length ≤ cur.size := by rw [hl, hcs, ← Nat.add_mul]; exact Nat.mul_le_mul_right _ hroom
    have hst := run_storeCells_at P g (n * i.size) e news 0 cur w hg (by simpa using hfit) hs.one
    simp only [Nat.add_zero] at hst
    have hr : (Builtin.append_ #[t, tx] ty #[.slice (some ⟨g, 0, none⟩) n cap, x]).run P w =
        .ok (.slice (some ⟨g, 0, none⟩) (n + m) cap) (w.setRow g (cur.toList.take (n * i.size) ++ news ++ cur.toList.drop (n * i.size + news.length)).toArray) := by
      rcases hs.kind with ⟨e', hk⟩ | hk <;> simp [Builtin.append_, run_underlying ht, run_underlying hk, sizeOf, typeInfo, hi, hs.len, hroom, hs.cells, Addr.add_lit, hst]
    refine ⟨_, hr, ⟨hlen, .inr ⟨g, cap, _, rfl, hbg, setRow_heap w g cur _ e _ hg, hroom, hcm, ?_, ?_⟩⟩, ⟨rfl, rfl, rfl, by simp, fun k _ hk => setRow_other w g k _ (fun e => hk (by rw [e]))⟩⟩
    · simp only [List.size_toArray, List.length_append, List.length_take, List.length_drop, Array.length_toList]
      omega
    · rw [htake, ← hlen]
      exact List.take_left
theorem ownsRow_pre3 {base n k cap g : Nat} {e : TypeId} {l : List It} (h : w.ownsRow base e 3 (.slice (some ⟨g, 0, none⟩) n cap) n (its l)) (hk : k ≤ n) : w.ownsRow base e 3 (.slice (some ⟨g, 0, none⟩) k cap) k (its (l.take k)) := by
  have hl := h.1
  rw [its_len] at hl
  rcases h.2 with ⟨hv, _⟩ | ⟨g', cap', cur, hv, hbg, hg, hnc, hcm, hcs, htake⟩
  · cases hv
  · cases hv
    refine ⟨by rw [its_len, List.length_take]; omega, .inr ⟨g, cap, cur, rfl, hbg, hg, by omega, hcm, hcs, ?_⟩⟩
    rw [its_take, ← htake, List.take_take]
    congr 1
    omega
/-- clear of what lies behind the elements of a row. -/
theorem run_clr3 {base n m cap g : Nat} {t ty e : TypeId} {z : Value} {xs : List Value} (ht : P.underlying t = some (.slice e)) (hz : ∀ w, (zeroValue e).run P w = .ok z w) (hzc : ∀ n, (Builtin.zeroCells z.cells n).size = n * 3) (hz1 : ∀ n, ∀ v ∈ (Builtin.zeroCells z.cells n).toList, v.oneCell' = true)
    (hown : w.ownsRow base e 3 (.slice (some ⟨g, 0, none⟩) n cap) n xs) (hm : 0 < m) (hroom : n + m ≤ cap) (c : Nat) :
    ∃ w', (Builtin.clear_ #[t] ty #[.slice (some ⟨g, n * 3, none⟩) m c]).run P w = .ok (.tuple #[]) w' ∧ w'.ownsRow base e 3 (.slice (some ⟨g, 0, none⟩) n cap) n xs ∧ w.grownBy w' (some g) := by
  have hl := hown.1
  rcases hown.2 with ⟨hv, _⟩ | ⟨g', cap', cur, hv, hbg, hg, hnc, hcm, hcs, htake⟩
  · cases hv
  · cases hv
    have hzl : (Builtin.zeroCells z.cells m).toList.length = m * 3 := by rw [Array.length_toList, hzc]
    have hfit : n * 3 + (Builtin.zeroCells z.cells m).toList.length ≤ cur.size := by rw [hzl, hcs]; omega
    have hst := run_storeCells_at P g (n * 3) e (Builtin.zeroCells z.cells m).toList 0 cur w hg (by simpa using hfit) (hz1 m)
    simp only [Nat.add_zero] at hst
    obtain ⟨p, rfl⟩ : ∃ p, m = p + 1 := ⟨m - 1, by omega⟩
    have hr : (Builtin.clear_ #[t] ty #[.slice (some ⟨g, n * 3, none⟩) (p + 1) c]).run P w = .ok (.tuple #[]) (w.setRow g (cur.toList.take (n * 3) ++ (Builtin.zeroCells z.cells (p + 1)).toList ++ cur.toList.drop (n * 3 + (Builtin.zeroCells z.cells (p + 1)).toList.length)).toArray) := by
      simp only [Builtin.clear_, List.getElem?_toArray, List.getElem?_cons_zero, Sem.run_bind, run_underlying ht, Result.andThen_ok, hz, hst, Sem.run_pure]
    refine ⟨_, hr, ⟨hl, .inr ⟨g, cap, _, rfl, hbg, setRow_heap w g cur _ e _ hg, hnc, hcm, ?_, ?_⟩⟩, ⟨rfl, rfl, rfl, by simp, fun k _ hk => setRow_other w g k _ (fun e => hk (by rw [e]))⟩⟩
    · simp only [List.size_toArray, List.length_append, List.length_take, List.length_drop, Array.length_toList] at *
      omega
    · rw [htake, List.append_assoc, ← hl]
      exact List.take_left
theorem wp_app_in {o : Oper} {a : Act} {K : Act → World → Prop} {Q : Exit → Act → World → Prop} (s x : Operand) (t tx : TypeId)
    (ho : o.op = .call { callee := .builtin .append, args := #[s, x], argTypes := #[t, tx] })
    {base m n cap g sz bt : Nat} {e : TypeId} {z y : Value} {xs news : List Value} (hT : Elem P t e z sz bt) (hs : a.eval s = .slice (some ⟨g, 0, none⟩) n cap) (hx : a.eval x = y) (hown : w.ownsRow base e sz (.slice (some ⟨g, 0, none⟩) n cap) n xs) (hsrc : Src P sz tx y m news w)
    (hroom : n + m ≤ cap)
    (h : ∀ w', w'.ownsRow base e sz (.slice (some ⟨g, 0, none⟩) (n + m) cap) (n + m) (xs ++ news) → w.grownBy w' (some g) → K (a.put o.dst (.slice (some ⟨g, 0, none⟩) (n + m) cap)) w') : o.wp P a w K Q := by
  obtain ⟨w', hr, h1, h2⟩ := run_app_in (ty := o.type) hT hown hsrc hroom
  unfold Oper.wp execOp
  simp only [ho, resolve, invoke, builtin, Sem.run_bind, Sem.run_pure, Result.andThen_ok, List.map_toArray, List.map_cons, List.map_nil, hs, hx, hr]
  exact h _ h1 h2
end
theorem wpL_clr {P : Program} {ops : Array Oper} {rest : List Oper} {o : Oper} {a : Act} {w w' : World} {Q : Exit → Act → World → Prop} (hgd : o.guard = none) (x : Operand) (t : TypeId) (ho : o.op = .call { callee := .builtin .clear, args := #[x], argTypes := #[t] }) {y : Value} (hx : a.eval x = y)
    (hr : (Builtin.clear_ #[t] o.type #[y]).run P w = .ok (.tuple #[]) w') (h : wpList P ops Q rest (a.put o.dst (.tuple #[])) w') : wpList P ops Q (o :: rest) a w := by
  refine wpList_plain hgd fun K hK => ?_
  unfold Oper.wp execOp
  simp only [ho, resolve, invoke, builtin, Sem.run_bind, Sem.run_pure, Result.andThen_ok, List.map_toArray, List.map_cons, List.map_nil, hx, hr]
  exact hK _ _ h
theorem drew_own {w : World} {B n sz : Nat} {e : TypeId} {v : Value} {xs : List Value} (h : w.ownsRow B e sz v n xs) : w.drew.ownsRow B e sz v n xs := h
theorem drew_grown {w w' : World} {row : Option Nat} (h : w.drew.grownBy w' row) : w.grownBy w' row := ⟨h.os, h.tape, h.output, h.size, h.block⟩
theorem zero_it (w : World) : (zeroValue 47).run Try.prog w = .ok (.agg itNil.cells) w := by kernel_rfl
theorem zero_it_size (n : Nat) : (Builtin.zeroCells (Value.agg itNil.cells).cells n).size = n * 3 := by
  unfold Builtin.zeroCells
  simp [Value.cells, It.cells, itNil]
theorem zero_it_one (n : Nat) : ∀ v ∈ (Builtin.zeroCells (Value.agg itNil.cells).cells n).toList, v.oneCell' = true := by
  intro v hv
  unfold Builtin.zeroCells at hv
  simp only [Array.mem_toList_iff, Array.mem_map] at hv
  obtain ⟨i, _, rfl⟩ := hv
  show (itNil.cells[i % 3]!).oneCell' = true
  have hj := Nat.mod_lt i (by decide : 0 < 3)
  generalize i % 3 = j at hj
  match j, hj with
  | 0, _ => rfl
  | 1, _ => rfl
  | 2, _ => rfl

/-- What Delete of the last ones makes. -/
def Dlt (w : World) (B : Nat) (A : Option Addr) (i c n : Nat) (l : List It) (e : Ending) (w' : World) : Prop := e = .returned (.slice A i c) ∧ w'.ownsRow B 47 3 (.slice A i c) i (its (l.take i)) ∧ w.grownBy w' (Value.ownBlock (.slice A n c))
set_option maxHeartbeats 2000000 in
theorem delete_any {w : World} {B n c : Nat} {A : Option Addr} {l : List It} (h : w.ownsRow B 47 3 (.slice A n c) n (its l)) (i : Nat) (hi : i ≤ n) (hn : n ≤ 5000) :
    Calls Try.prog 60 #[.slice A n c, .int .i64 (i : Int), .int .i64 (n : Int)] w (Dlt w B A i c n l) := by
  have hl : l.length = n := by have := h.1; rw [its_len] at this; omega
  have hrd := ownsRow_rd h
  have hnc := hrd.1
  have hcm := hrd.2.1
  have hnI : (n : Int) ≤ 5000 := by omega
  by_cases hin : i = n
  · subst hin
    have hlt : l.take i = l := List.take_of_length_le (by omega)
    have HH := Lib.hid h
    rcases h.2 with ⟨hv, _⟩ | ⟨g, cap, cur, hv, _⟩
    · cases hv
      clear h hrd
      go_enter Try.func60, Try.ntmps60
      go_wp2
      go_ret
      exact ⟨rfl, by rw [hlt]; exact HH.out, World.grownBy.refl _ _⟩
    · cases hv
      clear h hrd
      go_enter Try.func60, Try.ntmps60
      go_wp2
      go_ret
      exact ⟨rfl, by rw [hlt]; exact HH.out, World.grownBy.refl _ _⟩
  · have hlt : i < n := by omega
    obtain ⟨q, rfl⟩ : ∃ q, A = some ⟨q, 0, none⟩ := by
      rcases h.2 with ⟨hv, _⟩ | ⟨g, cap, cur, hv, _⟩
      · cases hv; omega
      · cases hv; exact ⟨g, rfl⟩
    have HP := Lib.hid (ownsRow_pre3 h hi)
    have q1 : ((i : Int) == (n : Int)) = false := by simp; omega
    have q2 : decide ((i : Int) = (n : Int)) = false := by simp; omega
    have q4 : i ≤ c := by omega
    have q5 : ¬ c = i := by omega
    have hIn : (i : Int) ≤ (n : Int) := by omega
    have HI := Lib.hid hlt
    obtain ⟨A2, hA, hsrc⟩ : ∃ A2 : Addr, (if c = n then some (⟨q, 0, none⟩ : Addr) else some ⟨q, n * 3, none⟩) = some A2 ∧ Hid (∀ w1, Src Try.prog 3 31 (.slice (some A2) 0 (c - n)) 0 [] w1) := by
      by_cases hc : c = n
      · exact ⟨⟨q, 0, none⟩, by rw [if_pos hc], Lib.hid fun w1 => Src.ofSlice w1 Try.underlying31 _ 0 _ [] rfl (fun k u hu => by simp at hu) (fun u hu => by cases hu)⟩
      · exact ⟨⟨q, n * 3, none⟩, by rw [if_neg hc], Lib.hid fun w1 => Src.ofSlice w1 Try.underlying31 _ 0 _ [] rfl (fun k u hu => by simp at hu) (fun u hu => by cases hu)⟩
    clear h hrd hi hl
    go_enter Try.func60, Try.ntmps60
    go_wp2_with (fail)
    refine wp_segs [([0, 1, 2, 3, 4, 5], 6)] [7] (fun _ => True) (by kernel_rfl) (by kernel_rfl) (fun d _ _ _ _ h => by cases d <;> exact h) trivial ?_
    intro f hf
    simp only [pickI, Option.toList_some, List.cons_append, List.nil_append, List.getElem?_toArray, List.getElem?_cons_succ, List.getElem?_cons_zero]
    repeat (go_big_quiet_step (fail))
    refine wpQuiet_nil ?_
    clear hf f
    refine seg_op (by simp only [List.getElem?_toArray, List.getElem?_cons_succ, List.getElem?_cons_zero]; rfl) fun K hK => ?_
    rw [if_pos (by rfl)]
    refine wp_app_in (.tmp 22) (.tmp 25) _ _ rfl E_it rfl rfl (drew_own HP.out) (hsrc.out _) (by omega) ?_
    intro w1 ho1 hg1
    simp only [Nat.add_zero, List.append_nil] at ho1 ⊢
    refine hK.out _ _ ⟨fun _ => True, trivial, fun _ h => h, ?_⟩
    go_frame
    clear hK K
    intro f hf
    simp only [pickI, Option.toList_some, List.cons_append, List.nil_append, List.getElem?_toArray, List.getElem?_cons_succ, List.getElem?_cons_zero]
    repeat (go_big_quiet_step (fail))
    refine wpQuiet_nil ?_
    clear hf f
    obtain ⟨w3, hr3, ho3, hg3⟩ := run_clr3 (ty := 0) (m := n - i) Try.underlying31 zero_it zero_it_size zero_it_one ho1 (by omega) (by omega) (c - i)
    have HR := Lib.hid hr3
    have HO := Lib.hid ho3
    have HG := Lib.hid (grownBy_trans (drew_grown hg1) hg3 (.inl rfl))
    clear hr3 ho3 hg3 ho1 hg1 hA hsrc HP
    go_wp2_with (first
      | (refine wpL_clr rfl (.tmp 31) _ rfl rfl HR.out ?_)
      | fail)
    go_ret
    exact ⟨rfl, HO.out, HG.out⟩
end Go.Proofs.Ytlpckhjmbfeegaa

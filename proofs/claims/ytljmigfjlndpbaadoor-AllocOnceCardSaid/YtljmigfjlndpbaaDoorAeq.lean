/- Rows of words: which are the same, and which is the zero row. -/
import Derived.Test.YtljmigfjlndpbaaDoorAfirst
import Derived.Deep.MidRow
namespace Go.Proofs.YtljmigfjlndpbaaDoor
open Go.RowKit

/-- One cell after the other. -/
def eqAll (d : Nat) (e : TypeId) (n : Nat) (xs ys : Array Value) : List Nat → Sem Bool
  | [] => pure true
  | i :: is => do
    let a ← part e xs (i * n)
    let b ← part e ys (i * n)
    let r ← Op.equalIn d e a b
    if (!r) = true then pure false else eqAll d e n xs ys is
section
variable {P : Program}
theorem run_equalIn_arr (d : Nat) (w : World) (t e : TypeId) (n : Nat) (xs ys : Array Value) (ht : P.underlying t = some (.array n e)) (hz : (P.info? e).map (·.size) = some 1) :
    (Op.equalIn (d + 1) t (.agg xs) (.agg ys)).run P w = (eqAll d e 1 xs ys (List.range' 0 n)).run P w := by
  obtain ⟨i, hi, hi1⟩ : ∃ i, P.info? e = some i ∧ i.size = 1 := by
    cases hi : P.info? e with
    | none => rw [hi] at hz; cases hz
    | some i => rw [hi] at hz; exact ⟨i, rfl, by simpa using hz⟩
  have hsz : (sizeOf e).run P w = .ok 1 w := by simp [sizeOf, typeInfo, hi, hi1, Result.andThen]
  simp only [Op.equalIn, Sem.run_bind, run_underlying ht, Result.andThen_ok, hsz]
  simp only [Std.Legacy.Range.forIn_eq_forIn_range', Std.Legacy.Range.size, Nat.sub_zero, Nat.add_sub_cancel, Nat.div_one]
  generalize List.range' 0 n 1 = is
  clear hsz
  induction is generalizing w with
  | nil => simp [eqAll]
  | cons i is ih =>
    simp only [List.forIn_cons, eqAll, Sem.run_bind, Sem.run_ite]
    generalize (part e xs (i * 1)).run P w = r1
    cases r1 with
    | ok a w1 =>
      simp only [Result.andThen_ok]
      generalize (part e ys (i * 1)).run P w1 = r2
      cases r2 with
      | ok b w2 =>
        simp only [Result.andThen_ok]
        generalize (Op.equalIn d e a b).run P w2 = r3
        cases r3 with
        | ok r w3 =>
          cases r
          · simp only [Result.andThen_ok, Bool.not_false, if_true, Sem.run_pure]
          · simp only [Result.andThen_ok, Bool.not_true, Bool.false_eq_true, if_false, Sem.run_pure]
            exact ih w3
        | halt x w3 => simp [Result.andThen]
      | halt x w2 => simp [Result.andThen]
    | halt x w1 => simp [Result.andThen]
theorem run_eqAll (d : Nat) (e : TypeId) (he : P.underlying e = some (.int .u64)) (s u : List Nat) (hsu : s.length = u.length) (w : World) : ∀ (m k : Nat), k + m = s.length → s.take k = u.take k →
    (eqAll (d + 1) e 1 (u64s s).toArray (u64s u).toArray (List.range' k m)).run P w = .ok (decide (s = u)) w := by
  have hpart : ∀ (l : List Nat) (k : Nat) (x : Nat), l[k]? = some x → (part e (u64s l).toArray (k * 1)).run P w = .ok (.int .u64 (x : Int)) w := by
    intro l k x hk
    have ha : (isAgg e).run P w = .ok false w := by unfold isAgg; rw [Sem.run_bind, run_underlying he w]; rfl
    have hg : (u64s l)[k]? = some (.int .u64 (x : Int)) := by simp [u64s, hk]
    simp [part, Sem.run_bind, ha, hg, Result.andThen]
  intro m
  induction m with
  | zero =>
    intro k hk ht
    have : s = u := by rwa [List.take_of_length_le (by omega), List.take_of_length_le (by omega)] at ht
    simp [eqAll, this]
  | succ m ih =>
    intro k hk ht
    have h1 : k < s.length := by omega
    have h2 : k < u.length := by omega
    rw [List.range'_succ]
    simp only [eqAll, Sem.run_bind, hpart s k s[k] (List.getElem?_eq_getElem h1), hpart u k u[k] (List.getElem?_eq_getElem h2), Result.andThen_ok]
    rw [run_equalIn_int w d e .u64 .u64 _ _ he]
    by_cases hx : s[k] = u[k]
    · simp only [hx, beq_self_eq_true, Result.andThen_ok, Bool.not_true, Bool.false_eq_true, if_false]
      exact ih (k + 1) (by omega) (by rw [List.take_succ_eq_append_getElem h1, List.take_succ_eq_append_getElem h2, ht, hx])
    · have hne : ((s[k] : Int) == (u[k] : Int)) = false := by
        simp only [beq_eq_false_iff_ne, ne_eq]
        intro e
        exact hx (by exact_mod_cast e)
      have hsn : s ≠ u := fun e => hx (by subst e; rfl)
      simp [hne, hsn, Result.andThen]
end
theorem neq_row (s u : List Nat) (hs : s.length = 8) (hu : u.length = 8) (w : World) : (binOp .neq 62 (.agg (u64s s).toArray) (.agg (u64s u).toArray)).run Tryd.prog w = .ok (.bool (!decide (s = u))) w := by
  rw [run_neq_struct, run_equalIn_arr 9999 w 62 60 8 _ _ Tryd.underlying62 (by kernel_rfl), run_eqAll 9998 60 Tryd.underlying60 s u (by omega) w 8 0 (by omega) rfl]
  rfl
theorem guard_row (s u : List Nat) (x y : Operand) (w : World) : (eqGuard .neq 62 x y (.agg (u64s s).toArray) (.agg (u64s u).toArray)).run Tryd.prog w = .ok () w := run_eqGuard_agg w _ _ _ _ _ _ (by kernel_rfl)
theorem build_row (w : World) : (Instr.build 62 #[]).run Tryd.prog w = .ok (.agg (u64s Z8).toArray) w := by kernel_rfl
theorem size_row : (Tryd.prog.info? 62).map (·.size) = some 8 := by kernel_rfl

section
variable {w : World} {ops : Array Oper} {rest : List Oper} {o : Oper} {a : Act} {Q : Exit → Act → World → Prop}
theorem wpL_zero (hgd : o.guard = none) (ho : o.op = .build 62 #[]) (h : wpList Tryd.prog ops Q rest (a.put o.dst (.agg (u64s Z8).toArray)) w) : wpList Tryd.prog ops Q (o :: rest) a w := by
  refine wpList_plain hgd fun K hK => ?_
  have hrun := build_row w
  unfold Oper.wp
  simp only [execOp, ho, List.map_toArray, List.map_nil, Sem.run_bind, hrun, Result.andThen_ok, Sem.run_pure]
  exact hK _ _ h
theorem wpL_neq (hgd : o.guard = none) (x y : Operand) (t : TypeId) (ho : o.op = .binOp .neq 62 x y t) {s u : List Nat} (hx : a.eval x = .agg (u64s s).toArray) (hy : a.eval y = .agg (u64s u).toArray) (hs : s.length = 8) (hu : u.length = 8) (b : Bool) (hb : b = !decide (s = u))
    (h : wpList Tryd.prog ops Q rest (a.put o.dst (.bool b)) w) : wpList Tryd.prog ops Q (o :: rest) a w := by
  refine wpList_plain hgd fun K hK => ?_
  have h1 := neq_row s u hs hu w
  have h2 := guard_row s u x y w
  rw [← hb] at h1
  unfold Oper.wp
  simp only [execOp, ho, hx, hy, Sem.run_bind, h1, h2, Result.andThen_ok, Sem.run_pure]
  exact hK _ _ h
/-- A row is read where it lies among others. -/
theorem wpL_row (hgd : o.guard = none) (x : Operand) (ho : o.op = .load 62 x) {R q k : Nat} {ws : List Nat} {tl : List Value} (hx : a.eval x = .pointer (some ⟨R, q * 8, none⟩)) (hr : w.heap[R]? = some (.cells (u64s ws ++ tl).toArray 62 (0, 0))) (hl : ws.length = 8 * k) (hq : q < k)
    (h : wpList Tryd.prog ops Q rest (a.put o.dst (.agg (u64s (rowOf ws q)).toArray)) w) : wpList Tryd.prog ops Q (o :: rest) a w := by
  refine wpList_load_mid hgd _ x ho R (q * 8) hx (u64s (rowOf ws q)) _ ?_ Tryd.underlying62 rfl ?_ h
  · have := World.rangeAt_of_block hr (q * 8) 8
    rw [List.extract_toArray, List.toList_toArray] at this
    rw [show u64s (rowOf ws q) = (u64s ws ++ tl).extract (q * 8) (q * 8 + 8) by
      have hlw : (u64s ws).length = 8 * k := by rw [u64s, List.length_map]; exact hl
      rw [List.extract_eq_take_drop, show q * 8 + 8 - q * 8 = 8 by omega, List.drop_append_of_le_length (by omega), List.take_append_of_le_length (by rw [List.length_drop]; omega)]
      simp [rowOf, u64s, Nat.mul_comm]]
    exact this
  · rw [size_row, show (u64s (rowOf ws q)).length = 8 by rw [u64s, List.length_map]; exact rowOf_len hl hq]
end

end Go.Proofs.YtljmigfjlndpbaaDoor

/- Plain, Same and like of the law's. -/
import Derived.Test.YtlpckhjmbfeegaaDe
import Derived.Laws.StructEq
namespace Go.Proofs.Ytlpckhjmbfeegaa
open Go.RowKit
set_option maxRecDepth 20000
section
variable {P : Program} {w : World}
theorem eqFieldsC (d : Nat) (xs ys : Array Value) (f : Field) (fs : List Field) (n : f.name ≠ "_") (a b : Value) (h : (Go.part f.type xs f.offset).run P w = .ok a w) (k : (Go.part f.type ys f.offset).run P w = .ok b w)
    (e : (Op.equalIn d f.type a b).run P w = .ok true w) : (Op.eqFields d xs ys (f :: fs)).run P w = (Op.eqFields d xs ys fs).run P w := by
  rw [Op.eqFields, if_pos n]
  simp only [Sem.run_bind, h, k, e, Result.andThen_ok, Bool.not_true, Bool.false_eq_true, if_false]
theorem eqFields0 (d : Nat) (xs ys : Array Value) : (Op.eqFields d xs ys []).run P w = .ok true w := by
  rw [Op.eqFields]
  rfl
theorem part_one {t : TypeId} {D : TypeDesc} (ht : P.underlying t = some D) (hD : D.isRow = false) {cs : Array Value} {j : Nat} {x : Value} (hx : cs[j]? = some x) : (Go.part t cs j).run P w = .ok x w := by
  have ha : (isAgg t).run P w = .ok false w := by
    unfold isAgg
    rw [Sem.run_bind, run_underlying ht w]
    cases D <;> first | rfl | simp [TypeDesc.isRow] at hD
  simp [Go.part, Sem.run_bind, ha, hx, Result.andThen]
end
theorem int_eq (w : World) (d : Nat) {t : TypeId} {k : IntKind} (a : Int) (h : Try.prog.underlying t = some (.int k)) : (Op.equalIn (d + 1) t (.int k a) (.int k a)).run Try.prog w = .ok true w := by
  rw [run_equalIn_int w d t k k a a h]
  simp
theorem str_eq (w : World) (d : Nat) {t : TypeId} (a : ByteArray) (h : Try.prog.underlying t = some .string) : (Op.equalIn (d + 1) t (.string a) (.string a)).run Try.prog w = .ok true w := by
  rw [run_equalIn_string (w := w) d t a a h]
  simp
theorem it_eq (x : It) (w : World) (d : Nat) : (Op.equalIn (d + 2) 62 (.agg x.cells) (.agg x.cells)).run Try.prog w = .ok true w := by
  have ht : Try.prog.underlying 62 = some (.struct (Try.prog.fieldsOf 62)) := by kernel_rfl
  have hp : Try.prog.stoodInHeld 62 = false := by kernel_rfl
  obtain ⟨f0, f1, f2, hf, n0, n1, n2, u0, u1, u2, o0, o1, o2⟩ : ∃ f0 f1 f2 : Field, (Try.prog.fieldsOf 62).toList = [f0, f1, f2] ∧ f0.name ≠ "_" ∧ f1.name ≠ "_" ∧ f2.name ≠ "_" ∧
      Try.prog.underlying f0.type = some (.int .u64) ∧ Try.prog.underlying f1.type = some (.int .i64) ∧ Try.prog.underlying f2.type = some .string ∧ f0.offset = 0 ∧ f1.offset = 1 ∧ f2.offset = 2 := by
    unfold Program.fieldsOf
    rw [Try.underlying62]
    exact ⟨_, _, _, rfl, by simp, by simp, by simp, Try.underlying22, Try.underlying3, Try.underlying9, rfl, rfl, rfl⟩
  rw [run_equalIn_struct w (d + 1) _ _ _ ht hp, hf]
  rw [eqFieldsC (d + 1) _ _ f0 _ n0 _ _ (part_one u0 rfl (by rw [o0]; rfl)) (part_one u0 rfl (by rw [o0]; rfl)) (int_eq w d _ u0),
    eqFieldsC (d + 1) _ _ f1 _ n1 _ _ (part_one u1 rfl (by rw [o1]; rfl)) (part_one u1 rfl (by rw [o1]; rfl)) (int_eq w d _ u1),
    eqFieldsC (d + 1) _ _ f2 _ n2 _ _ (part_one u2 rfl (by rw [o2]; rfl)) (part_one u2 rfl (by rw [o2]; rfl)) (str_eq w d _ u2), eqFields0]
theorem it_neq (x : It) (w : World) : (binOp .neq 62 (.agg x.cells) (.agg x.cells)).run Try.prog w = .ok (.bool false) w := by
  rw [run_neq_struct, it_eq x w 9998]
  rfl
theorem it_eql (x : It) (w : World) : (binOp .eql 62 (.agg x.cells) (.agg x.cells)).run Try.prog w = .ok (.bool true) w := by
  rw [run_eql_struct, it_eq x w 9998]
  rfl
theorem it_guard (w : World) (op : BinOp) (x y : Operand) (a b : Array Value) : (eqGuard op 62 x y (.agg a) (.agg b)).run Try.prog w = .ok () w := run_eqGuard_agg w _ _ _ _ _ _ (by kernel_rfl)
theorem Src.lit' {P : Program} {w : World} {b sz n : Nat} {tx e e' : TypeId} (hb : b = w.heap.size) (hk : P.underlying tx = some (.slice e')) (cs : Array Value) (hn : cs.size = n * sz) (h1 : ∀ u ∈ cs.toList, u.oneCell' = true) :
    Src P sz tx (.slice (some ⟨b, 0, none⟩) n n) n cs.toList (w.alloc (.cells cs e)) := by subst hb; exact Src.lit hk cs hn h1
set_option maxHeartbeats 2000000 in
theorem same29 {w : World} {A A2 : Option Addr} {n c c2 : Nat} {l : List It} (h1 : Rd w w.heap.size 3 A n c (its l)) (h2 : Rd w w.heap.size 3 A2 n c2 (its l)) (hl : l.length = n) (hn : n ≤ 5000) :
    Calls Try.prog 48 #[.slice A n c, .slice A2 n c2] w fun e w' => e = .returned (.bool true) ∧ Below w.heap.size w w' := by
  have H1 := Lib.hid h1
  have H2 := Lib.hid h2
  have HL := Lib.hid hl
  have nI : (n : Int) ≤ 5000 := by omega
  clear h1 h2 hl
  go_enter Try.func48, Try.ntmps48
  go_wp2_with (fail)
  go_loopw [13] (fun ir wr => ∃ i : Nat, i ≤ n ∧ ir = .int .i64 (i : Int) ∧ Hid (Below w.heap.size w wr)) (fun ir _ => n - (intOf ir).toNat)
  case atStart => exact ⟨0, Nat.zero_le _, rfl, Lib.hid (Below.refl _ _)⟩
  case round =>
    obtain ⟨i, hi, rfl, HB⟩ := hrel
    by_cases hlt : i < n
    · obtain ⟨x, hx⟩ : ∃ x, l[i]? = some x := ⟨_, List.getElem?_eq_getElem (by have := HL.out; omega)⟩
      obtain ⟨b, o, rfl, hbb, k0, k1, k2⟩ := (H1.out.below HB.out).item HL.out hx
      obtain ⟨b2, o2, rfl, hbb2, l0, l1, l2⟩ := (H2.out.below HB.out).item HL.out hx
      have hlti : (i : Int) < (n : Int) := by omega
      have d5 : decide ((i : Int) < (n : Int)) = true := by simpa using hlti
      have HNE := Lib.hid (fun W => it_neq x W)
      have HGU := Lib.hid (fun W op a b => it_guard W op a b x.cells x.cells)
      clear hx
      obtain ⟨xt, xk, xx⟩ := x
      unfold It.cells at *
      dsimp only at *
      have hne := HNE.out
      have hgu := HGU.out
      go_wp2_with (fail)
      go_quiet (fail)
      go_wp2_with (fail)
      have hlt2 := hlt
      refine ⟨⟨i + 1, by omega, by go_num, Lib.hid (HB.out.trans (drewN_below _ _ |>.mono HB.out.size))⟩, by simp [intOf]; omega⟩
    · obtain rfl : i = n := by omega
      have d5 : decide ((i : Int) < (i : Int)) = false := by simp
      go_wp2
      go_ret
      exact ⟨rfl, HB.out⟩
set_option maxHeartbeats 2000000 in
theorem plain_any {w : World} {A : Option Addr} {n c : Nat} {l : List It} (h : Rd w w.heap.size 3 A n c (its l)) (hl : l.length = n) (hn : n ≤ 5000) :
    Calls Try.prog 15 #[.slice A n c] w (Rowed w 62 l) := by
  have HH := Lib.hid h
  have HL := Lib.hid hl
  have nI : (n : Int) ≤ 5000 := by omega
  clear h hl
  go_enter Try.func15, Try.ntmps15
  go_wp2_with (fail)
  go_loopw [3, 8] (fun vr ir wr => ∃ (i : Nat) (vo : Value), i ≤ n ∧ vr = vo ∧ ir = .int .i64 (i : Int) ∧ Hid (ROne w wr vo (l.take i))) (fun _ ir _ => n - (intOf ir).toNat)
  case atStart => exact ⟨0, _, Nat.zero_le _, rfl, rfl, Lib.hid ⟨Below.refl _ _, World.ownsRow_nil _ _ _ _⟩⟩
  case round =>
    obtain ⟨i, vo, hi, rfl, rfl, HO⟩ := hrel
    by_cases hlt : i < n
    · obtain ⟨x, hx⟩ : ∃ x, l[i]? = some x := ⟨_, List.getElem?_eq_getElem (by have := HL.out; omega)⟩
      obtain ⟨b, o, rfl, hbb, k0, k1, k2⟩ := (HH.out.below HO.out.bel).item HL.out hx
      have hlti : (i : Int) < (n : Int) := by omega
      have d5 : decide ((i : Int) < (n : Int)) = true := by simpa using hlti
      have HT : Hid (l.take (i + 1) = l.take i ++ [x]) := Lib.hid (by rw [List.take_add_one, hx]; rfl)
      obtain ⟨lo, hlo⟩ : ∃ lo, lo = (l.take i).length := ⟨_, rfl⟩
      have HLO := Lib.hid hlo
      have HLB : Hid (lo ≤ 5000) := Lib.hid (by rw [hlo, List.length_take]; omega)
      have hoo := HO.out.own
      rw [← hlo] at hoo
      have HOO := Lib.hid hoo
      obtain ⟨Ao, co, rfl⟩ := ownsRow_form hoo
      have HLT := Lib.hid hlt
      clear hlo hoo hx hlt
      obtain ⟨xt, xk, xx⟩ := x
      dsimp only at *
      go_wp2_with (first
        | (at_builtin
           have hbw : Below wr.heap.size wr ((wr.alloc (.cells #[.int .u64 (xt : Int), .int .i64 xk, .string (str xx)] 47)).alloc (.cells #[.int .u64 (xt : Int), .int .i64 xk, .string (str xx)] 62)) := ((Below.refl _ _).alloc (Nat.le_refl _) _).alloc (by simp) _
           have hon := HO.out.below hbw
           have HON := Lib.hid hon
           have HOP := Lib.hid (owns_below HOO.out hbw)
           have HSL := Lib.hid (Src.lit' (b := wr.heap.size + 1) (w := wr.alloc (.cells #[.int .u64 (xt : Int), .int .i64 xk, .string (str xx)] 47)) (by simp) (sz := 3) (n := 1) (e := 62) Try.underlying37 #[.int .u64 (xt : Int), .int .i64 xk, .string (str xx)] rfl (it_one ⟨xt, xk, xx⟩))
           refine wpL_app rfl (.tmp 12) (.tmp 14) _ _ rfl E_rit rfl rfl HOP.out HSL.out (by have := HLB.out; unfold maxLen; omega) (by have := HLB.out; omega) HON.out.bel.size ?_
           intro v5 w5 ho5 hg5 hat5
           have HO5 : Hid (ROne w w5 v5 (l.take i ++ [⟨xt, xk, xx⟩])) := Lib.hid (HON.out.app (by rw [← HLO.out]; exact ho5) hg5)
           clear hbw hon ho5 hg5 hat5)
        | fail)
      have hl2 := HLT.out
      exact ⟨⟨i + 1, _, by omega, rfl, by go_num, Lib.hid (by rw [HT.out]; exact HO5.out)⟩, by simp [intOf]; omega⟩
    · obtain rfl : i = n := by omega
      have d5 : decide ((i : Int) < (i : Int)) = false := by simp
      have ho := HO.out.own
      rw [List.take_of_length_le (by have := HL.out; omega)] at ho
      obtain ⟨Ao, co, rfl⟩ := ownsRow_form ho
      have HOO := Lib.hid ho
      clear ho hlt
      go_wp2_with (fail)
      go_ret
      exact ⟨Ao, co, rfl, HOO.out, HO.out.bel⟩
end Go.Proofs.Ytlpckhjmbfeegaa

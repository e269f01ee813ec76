/- The same waits. -/
import Derived.Test.YtkcpldkdnnhmmaaRd
import Derived.Laws.StructEq
namespace Go.Proofs.Ytkcpldkdnnhmmaa
open Go.RowKit
set_option maxRecDepth 20000

section
variable {P : Program} {w : World}
theorem eqFieldsC (d : Nat) (xs ys : Array Value) (f : Field) (fs : List Field) (n : f.name ≠ "_") (a b : Value) (h : (Go.part f.type xs f.offset).run P w = .ok a w) (k : (Go.part f.type ys f.offset).run P w = .ok b w)
    (e : (Op.equalIn d f.type a b).run P w = .ok true w) : (Op.eqFields d xs ys (f :: fs)).run P w = (Op.eqFields d xs ys fs).run P w := by
  rw [Op.eqFields, if_pos n]
  simp only [Sem.run_bind, h, k, e, Result.andThen_ok, Bool.not_true, Bool.false_eq_true, if_false]
theorem eqFields0 (d : Nat) (xs ys : Array Value) : (Op.eqFields d xs ys []).run P w = .ok true w := by
  rw [Op.eqFields]
  rfl
theorem part_one {t : TypeId} {D : TypeDesc} (ht : P.underlying t = some D) (hD : D.isRow = false) {cs : Array Value} {j : Nat} {x : Value} (hx : cs[j]? = some x) : (Go.part t cs j).run P w = .ok x w := by
  have ha : (isAgg t).run P w = .ok false w := by
    unfold isAgg
    rw [Sem.run_bind, run_underlying ht w]
    cases D <;> first | rfl | simp [TypeDesc.isRow] at hD
  simp [Go.part, Sem.run_bind, ha, hx, Result.andThen]
theorem run_size {ty : TypeId} {n : Nat} (h : (P.info? ty).map (·.size) = some n) : (Go.sizeOf ty).run P w = .ok n w := by
  cases hq : P.info? ty with
  | none => rw [hq] at h; cases h
  | some i =>
    rw [hq] at h
    have hn : i.size = n := by simpa using h
    simp [Go.sizeOf, Go.typeInfo, hq, hn, Result.andThen]
theorem part_row {t : TypeId} {D : TypeDesc} {n : Nat} (ht : P.underlying t = some D) (hD : D.isRow = true) (hn : (P.info? t).map (·.size) = some n) (cs : Array Value) (j : Nat) : (Go.part t cs j).run P w = .ok (.agg (cs.extract j (j + n))) w := by
  have ha : (isAgg t).run P w = .ok true w := by
    unfold isAgg
    rw [Sem.run_bind, run_underlying ht w]
    cases D <;> first | rfl | simp [TypeDesc.isRow] at hD
  have hs : (Go.sizeOf t).run P w = .ok n w := run_size hn
  simp only [Go.part, Sem.run_bind, ha, hs, Result.andThen_ok, if_true, Sem.run_pure]
end
theorem int_eq (w : World) (d : Nat) {t : TypeId} {k : IntKind} (a : Int) (h : Try.prog.underlying t = some (.int k)) : (Op.equalIn (d + 1) t (.int k a) (.int k a)).run Try.prog w = .ok true w := by
  rw [run_equalIn_int w d t k k a a h]
  simp
theorem span_eq (w : World) (d : Nat) (a b : Int) : (Op.equalIn (d + 2) 32 (.agg #[.int .u32 a, .int .u32 b]) (.agg #[.int .u32 a, .int .u32 b])).run Try.prog w = .ok true w := by
  have ht : Try.prog.underlying 32 = some (.struct (Try.prog.fieldsOf 32)) := by kernel_rfl
  have hp : Try.prog.stoodInHeld 32 = false := by kernel_rfl
  obtain ⟨f0, f1, hf, n0, n1, u0, o0, u1, o1⟩ : ∃ f0 f1 : Field, (Try.prog.fieldsOf 32).toList = [f0, f1] ∧ f0.name ≠ "_" ∧ f1.name ≠ "_" ∧ Try.prog.underlying f0.type = some (.int .u32) ∧ f0.offset = 0 ∧ Try.prog.underlying f1.type = some (.int .u32) ∧ f1.offset = 1 := by
    unfold Program.fieldsOf
    rw [Try.underlying32]
    exact ⟨_, _, rfl, by simp, by simp, Try.underlying30, rfl, Try.underlying30, rfl⟩
  rw [run_equalIn_struct w (d + 1) _ _ _ ht hp, hf]
  rw [eqFieldsC (d + 1) _ _ f0 [f1] n0 _ _ (part_one u0 rfl (by rw [o0]; rfl)) (part_one u0 rfl (by rw [o0]; rfl)) (int_eq w d _ u0),
    eqFieldsC (d + 1) _ _ f1 [] n1 _ _ (part_one u1 rfl (by rw [o1]; rfl)) (part_one u1 rfl (by rw [o1]; rfl)) (int_eq w d _ u1), eqFields0]
theorem wt_eq (x : Wt) (w : World) (d : Nat) : (Op.equalIn (d + 3) 68 (.agg x.cells) (.agg x.cells)).run Try.prog w = .ok true w := by
  have ht : Try.prog.underlying 68 = some (.struct (Try.prog.fieldsOf 68)) := by kernel_rfl
  have hp : Try.prog.stoodInHeld 68 = false := by kernel_rfl
  obtain ⟨f0, f1, f2, f3, f4, hf, n0, n1, n2, n3, n4, u0, u1, u2, t3, u4, o0, o1, o2, o3, o4⟩ : ∃ f0 f1 f2 f3 f4 : Field, (Try.prog.fieldsOf 68).toList = [f0, f1, f2, f3, f4] ∧ f0.name ≠ "_" ∧ f1.name ≠ "_" ∧ f2.name ≠ "_" ∧ f3.name ≠ "_" ∧ f4.name ≠ "_" ∧
      Try.prog.underlying f0.type = some (.int .u64) ∧ Try.prog.underlying f1.type = some (.int .u64) ∧ Try.prog.underlying f2.type = some (.int .u64) ∧ f3.type = 32 ∧ Try.prog.underlying f4.type = some (.int .u64) ∧ f0.offset = 0 ∧ f1.offset = 1 ∧ f2.offset = 2 ∧ f3.offset = 3 ∧ f4.offset = 5 := by
    unfold Program.fieldsOf
    rw [Try.underlying68]
    exact ⟨_, _, _, _, _, rfl, by simp, by simp, by simp, by simp, by simp, Try.underlying29, Try.underlying29, Try.underlying29, rfl, Try.underlying29, rfl, rfl, rfl, rfl, rfl⟩
  have hsp : (Go.part f3.type x.cells f3.offset).run Try.prog w = .ok (.agg #[.int .u32 (x.fr : Int), .int .u32 (x.ct : Int)]) w := by
    rw [t3, o3, part_row Try.underlying32 rfl (n := 2) (by kernel_rfl)]
    rfl
  rw [run_equalIn_struct w (d + 2) _ _ _ ht hp, hf]
  rw [eqFieldsC (d + 2) _ _ f0 _ n0 _ _ (part_one u0 rfl (by rw [o0]; rfl)) (part_one u0 rfl (by rw [o0]; rfl)) (int_eq w (d + 1) _ u0),
    eqFieldsC (d + 2) _ _ f1 _ n1 _ _ (part_one u1 rfl (by rw [o1]; rfl)) (part_one u1 rfl (by rw [o1]; rfl)) (int_eq w (d + 1) _ u1),
    eqFieldsC (d + 2) _ _ f2 _ n2 _ _ (part_one u2 rfl (by rw [o2]; rfl)) (part_one u2 rfl (by rw [o2]; rfl)) (int_eq w (d + 1) _ u2),
    eqFieldsC (d + 2) _ _ f3 _ n3 _ _ hsp hsp (by rw [t3]; exact span_eq w d _ _),
    eqFieldsC (d + 2) _ _ f4 _ n4 _ _ (part_one u4 rfl (by rw [o4]; rfl)) (part_one u4 rfl (by rw [o4]; rfl)) (int_eq w (d + 1) _ u4), eqFields0]
theorem wt_neq (x : Wt) (w : World) : (binOp .neq 68 (.agg x.cells) (.agg x.cells)).run Try.prog w = .ok (.bool false) w := by
  rw [run_neq_struct, wt_eq x w 9997]
  rfl
theorem wt_guard (w : World) (op : BinOp) (x y : Operand) (a b : Array Value) : (eqGuard op 68 x y (.agg a) (.agg b)).run Try.prog w = .ok () w := run_eqGuard_agg w _ _ _ _ _ _ (by kernel_rfl)
set_option maxHeartbeats 2000000 in
theorem same_any {w : World} {A A2 : Option Addr} {n c c2 : Nat} {l : List Wt} (h1 : Rd w w.heap.size 6 A n c (wts l)) (h2 : Rd w w.heap.size 6 A2 n c2 (wts l)) (hl : l.length = n) (hn : n ≤ 1000) :
    Calls Try.prog 11 #[.slice A n c, .slice A2 n c2] w fun e w' => e = .returned (.bool true) ∧ Below w.heap.size w w' := by
  have H1 := Lib.hid h1
  have H2 := Lib.hid h2
  have HL := Lib.hid hl
  clear h1 h2 hl
  go_enter Try.func11, Try.ntmps11
  go_wp2_with (fail)
  go_loopw [13] (fun ir wr => ∃ i : Nat, i ≤ n ∧ ir = .int .i64 (i : Int) ∧ Hid (Below w.heap.size w wr)) (fun ir _ => n - (intOf ir).toNat)
  case atStart => exact ⟨0, Nat.zero_le _, rfl, Lib.hid (Below.refl _ _)⟩
  case round =>
    obtain ⟨i, hi, rfl, HB⟩ := hrel
    by_cases hlt : i < n
    · obtain ⟨x, hx⟩ : ∃ x, l[i]? = some x := ⟨_, List.getElem?_eq_getElem (by have := HL.out; omega)⟩
      obtain ⟨b, o, rfl, hbb, hcc⟩ := H1.out.2.2.2 (by omega)
      obtain ⟨b2, o2, rfl, hbb2, hcc2⟩ := H2.out.2.2.2 (by omega)
      have hce := fun j u (hu : x.cells[j]? = some u) => (HB.out.cell (p := ⟨b, o + (i * 6 + j), none⟩) hbb).trans (hcc _ _ (wts_get l i x hx j u hu))
      have hcf := fun j u (hu : x.cells[j]? = some u) => (HB.out.cell (p := ⟨b2, o2 + (i * 6 + j), none⟩) hbb2).trans (hcc2 _ _ (wts_get l i x hx j u hu))
      have hlti : (i : Int) < (n : Int) := by omega
      have hin : (i : Int) ≤ 1000 := by omega
      have hni : (n : Int) ≤ 1000 := by omega
      have d5 : decide ((i : Int) < (n : Int)) = true := by simpa using hlti
      have HNE := Lib.hid (fun W => wt_neq x W)
      have HGU := Lib.hid (fun W op a b => wt_guard W op a b x.cells x.cells)
      clear hcc hcc2 hx
      obtain ⟨cl, rq, ix, fr, ct, rd⟩ := x
      unfold Wt.cells at *
      dsimp only at *
      have k0 := hce 0 _ rfl
      have k1 := hce 1 _ rfl
      have k2 := hce 2 _ rfl
      have k3 := hce 3 _ rfl
      have k4 := hce 4 _ rfl
      have k5 := hce 5 _ rfl
      have l0 := hcf 0 _ rfl
      have l1 := hcf 1 _ rfl
      have l2 := hcf 2 _ rfl
      have l3 := hcf 3 _ rfl
      have l4 := hcf 4 _ rfl
      have l5 := hcf 5 _ rfl
      try dsimp only at k0 k1 k2 k3 k4 k5 l0 l1 l2 l3 l4 l5
      simp only [← Nat.add_assoc, Nat.add_zero] at k0 k1 k2 k3 k4 k5 l0 l1 l2 l3 l4 l5
      clear hce hcf
      have hne := HNE.out
      have hgu := HGU.out
      go_wp2_with (fail)
      go_quiet (fail)
      go_wp2_with (fail)
      have hlt2 := hlt
      refine ⟨⟨i + 1, by omega, by go_num, Lib.hid (HB.out.trans (drewN_below _ _ |>.mono HB.out.size))⟩, by simp [intOf]; omega⟩
    · obtain rfl : i = n := by omega
      have d5 : decide ((i : Int) < (i : Int)) = false := by simp
      go_wp2
      go_ret
      exact ⟨rfl, HB.out⟩
end Go.Proofs.Ytkcpldkdnnhmmaa

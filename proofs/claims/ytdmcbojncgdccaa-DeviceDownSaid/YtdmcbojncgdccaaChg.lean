/- What waits: a change as a value. -/
import Derived.Test.YtdmcbojncgdccaaDeve
namespace Go.Proofs.Ytdmcbojncgdccaa
open Go.RowKit

theorem fold_set (off : Nat) : ∀ (vs : List Value) (k : Nat) (cells : Array Value), off + k + vs.length ≤ cells.size →
    (vs.zipIdx k).foldl (fun cs (p : Value × Nat) => cs.setIfInBounds (off + p.2) p.1) cells = (cells.toList.take (off + k) ++ vs ++ cells.toList.drop (off + k + vs.length)).toArray := by
  intro vs
  induction vs with
  | nil =>
    intro k cells _
    simp
  | cons v vs ih =>
    intro k cells h
    simp only [List.length_cons] at h
    rw [List.zipIdx_cons, List.foldl_cons, ih (k + 1) _ (by simp; omega)]
    congr 1
    simp only [Array.toList_setIfInBounds, List.length_cons]
    have hl : off + k < cells.toList.length := by rw [Array.length_toList]; omega
    rw [← Nat.add_assoc, List.take_succ_eq_append_getElem (by rw [List.length_set]; exact hl), List.getElem_set_self, List.take_set_of_le (by omega), List.drop_set_of_lt (by omega)]
    simp only [List.append_assoc, List.singleton_append, List.cons_append, List.nil_append]
    rw [show off + k + (vs.length + 1) = off + k + 1 + vs.length from by omega]
def chgv (p : Int × List UInt8) : Value := .agg (chg p).toArray
theorem chgv_cells (p : Int × List UInt8) : (chgv p).cells = (chg p).toArray := rfl
theorem chg_len (p : Int × List UInt8) (h : p.2.length = 64) : (chg p).length = 65 := by simp [chg, u8s_len, h]
theorem chg_one (p : Int × List UInt8) : ∀ u ∈ chg p, u.oneCell' = true := by
  intro u hu
  rcases List.mem_cons.1 hu with rfl | hu
  · rfl
  · exact u8s_one _ u hu
theorem zero_chg (w : World) : (zeroValue 68).run Try.prog w = .ok (chgv (0, Z)) w := by kernel_rfl
theorem E_chg : Elem Try.prog 50 68 (chgv (0, Z)) 65 72 := Elem.mk_ Try.underlying50 (by kernel_rfl) rfl (by decide)
theorem places_chg (w : World) : ∃ fs, Try.prog.underlying 68 = some (.struct fs) ∧ (fs.mapM fun f => do pure (f.offset, ← Go.sizeOf f.type) : Sem (Array (Nat × Nat))).run Try.prog w = .ok #[(0, 1), (1, 64)] w := ⟨_, Try.underlying68, by kernel_rfl⟩
theorem fill_chg (x : Int) (s : List UInt8) (hs : s.length = 64) : Instr.fill (#[((0 : Nat), (1 : Nat)), (1, 64)][·]?) (chgv (0, Z)).cells [(0, .int .i64 x), (1, secv s)] = some (chg (x, s)).toArray := by
  have h1 : (secv s).cells.size = 64 := by rw [secv_cells]; simp [u8s_len, hs]
  have h0 : (Value.int .i64 x).cells.size = 1 := rfl
  have hz : (chgv (0, Z)).cells.size = 65 := rfl
  have e1 : (Value.cells (.int .i64 x)).zipIdx.foldl (fun cs (p : Value × Nat) => cs.setIfInBounds (0 + p.2) p.1) (chgv (0, Z)).cells = (.int .i64 x :: u8s Z).toArray := by rfl
  have e2 : (secv s).cells.zipIdx.foldl (fun cs (p : Value × Nat) => cs.setIfInBounds (1 + p.2) p.1) (.int .i64 x :: u8s Z).toArray = (chg (x, s)).toArray := by
    rw [secv_cells, ← Array.foldl_toList, Array.toList_zipIdx]
    have := fold_set 1 (u8s s) 0 (.int .i64 x :: u8s Z).toArray (by simp [u8s_len, hs, Z_len])
    rw [this]
    have hd : (u8s Z).drop (u8s s).length = [] := List.drop_of_length_le (by rw [u8s_len, u8s_len, hs, Z_len]; exact Nat.le_refl _)
    simp [chg, Nat.add_comm 1, hd]
  unfold Instr.fill
  simp only [List.getElem?_toArray, List.getElem?_cons_zero]
  rw [if_neg (by rw [h0, hz]; simp)]
  unfold Instr.fill
  simp only [List.getElem?_toArray, List.getElem?_cons_succ, List.getElem?_cons_zero]
  rw [if_neg (by rw [h1, e1]; simp [u8s_len, Z_len])]
  unfold Instr.fill
  rw [e1]
  exact congrArg some e2
theorem build_chg (x : Int) (s : List UInt8) (hs : s.length = 64) (w : World) : (Instr.build 68 #[(0, .int .i64 x), (1, secv s)]).run Try.prog w = .ok (chgv (x, s)) w := by
  obtain ⟨fs, hu, hp⟩ := places_chg w
  have hf := fill_chg x s hs
  unfold Instr.build
  simp only [Sem.run_bind, zero_chg, Result.andThen_ok, run_underlying hu, hp, hf, Sem.run_pure]
  rfl
theorem buildSlice_chg (p : Int × List UInt8) (hp : p.2.length = 64) (w : World) : (Instr.buildSlice 50 1 #[(0, chgv p)]).run Try.prog w = .ok (.slice (some ⟨w.heap.size, 0, none⟩) 1 1) (w.alloc (.cells (chg p).toArray 68)) := by
  have hsz : (Go.sizeOf 68).run Try.prog w = .ok 65 w := by kernel_rfl
  have hl := chg_len p hp
  have hr : ((Array.range (1 * 65)).map ((chgv (0, Z)).cells[· % (chgv (0, Z)).cells.size]!)).size = 65 := by simp
  have hf : Instr.fill (fun i => some (i * 65, 65)) ((Array.range (1 * 65)).map ((chgv (0, Z)).cells[· % (chgv (0, Z)).cells.size]!)) [(0, chgv p)] = some (chg p).toArray := by
    generalize (Array.range (1 * 65)).map ((chgv (0, Z)).cells[· % (chgv (0, Z)).cells.size]!) = cs at *
    unfold Instr.fill
    simp only
    rw [if_neg (by rw [chgv_cells, hr]; simp [hl])]
    unfold Instr.fill
    congr 1
    rw [chgv_cells, ← Array.foldl_toList, Array.toList_zipIdx]
    have := fold_set (0 * 65) (chg p) 0 cs (by omega)
    rw [this]
    have hd : cs.toList.drop (0 * 65 + 0 + (chg p).length) = [] := List.drop_of_length_le (by rw [Array.length_toList]; omega)
    rw [hd]
    simp
  unfold Instr.buildSlice
  simp only [Sem.run_bind, run_underlying Try.underlying50, Result.andThen_ok, hsz]
  simp [zero_chg, Result.andThen, hf, newRow]

end Go.Proofs.Ytdmcbojncgdccaa

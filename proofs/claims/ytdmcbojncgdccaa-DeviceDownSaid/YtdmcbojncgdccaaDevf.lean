/- A device: a new one; what is copied; a change. -/
import Derived.Test.YtdmcbojncgdccaaChg
namespace Go.Proofs.Ytdmcbojncgdccaa
open Go.RowKit

/-- copy into a whole block, as many as there are. -/
theorem run_cpy {w : World} {g n dc m cc B : Nat} {e : TypeId} {cur : Array Value} {A : Option Addr} {l : List UInt8} (hr : w.heap[g]? = some (.cells cur e (0, 0))) (hs : Rd w B 1 A m cc (u8s l)) (hn : n ≤ cur.size) (ty : TypeId) :
    (Builtin.copy_ #[31, 31] ty #[.slice (some ⟨g, 0, none⟩) n dc, .slice A m cc]).run Try.prog w = .ok (goInt ((min m n : Nat) : Int)) (w.setRow g (u8s (l.take (min m n)) ++ cur.toList.drop (min m n)).toArray) := by
  obtain ⟨q, hq⟩ : ∃ q, q = min m n := ⟨_, rfl⟩
  have hml := hs.len
  rw [u8s_len] at hml
  have hlq : (u8s (l.take q)).length = q := by rw [u8s_len, List.length_take]; omega
  have hfirst : (Builtin.firstCells 1 q (.slice A m cc)).run Try.prog w = .ok (u8s (l.take q)).toArray w := by
    cases A with
    | none =>
      have hm0 : m = 0 := by
        rcases Nat.eq_zero_or_pos m with h | h
        · exact h
        · obtain ⟨b, o, e, _⟩ := hs.2.2.2 h; cases e
      have hq0 : q = 0 := by omega
      subst hq0
      exact run_firstCells_none w 1 0 m cc
    | some a =>
      refine run_firstCells_some w 1 q a m cc _ (by rw [hlq, Nat.mul_one]) fun j v hv => ?_
      have hj : j < q := by rw [← hlq]; exact (List.getElem?_eq_some_iff.1 hv).1
      obtain ⟨b, o, he, _, hc⟩ := hs.2.2.2 (by omega)
      cases he
      rw [addOff]
      refine hc j v ?_
      rw [u8s_take, List.getElem?_take, if_pos hj] at hv
      exact hv
  have hst := run_storeCells_at Try.prog g 0 e (u8s (l.take q)) 0 cur w hr (by rw [hlq]; omega) (u8s_one _)
  simp only [Nat.add_zero, Nat.zero_add, List.take_zero, List.nil_append, hlq] at hst
  have hsz : (Go.sizeOf 5).run Try.prog w = .ok 1 w := by kernel_rfl
  have hmin : Nat.min m n = q := hq.symm
  rw [← hq]
  simp [Builtin.copy_, run_underlying Try.underlying31, Builtin.lenOf, hsz, hmin, hfirst, hst, Result.andThen]
theorem wpL_cpy {w : World} {ops : Array Oper} {rest : List Oper} {o : Oper} {a : Act} {Q : Exit → Act → World → Prop} (hgd : o.guard = none) (s x : Operand)
    (ho : o.op = .call { callee := .builtin .copy, args := #[s, x], argTypes := #[31, 31] })
    {g n dc m cc B : Nat} {e : TypeId} {cur : Array Value} {A : Option Addr} {l : List UInt8} (hs : a.eval s = .slice (some ⟨g, 0, none⟩) n dc) (hx : a.eval x = .slice A m cc) (hr : w.heap[g]? = some (.cells cur e (0, 0))) (hsrc : Rd w B 1 A m cc (u8s l)) (hn : n ≤ cur.size)
    (h : ∀ W : World, W.heap[g]? = some (.cells (u8s (l.take (min m n)) ++ cur.toList.drop (min m n)).toArray e (0, 0)) → w.grownBy W (some g) → Hid (W.heap.size = w.heap.size) → wpList Try.prog ops Q rest (a.put o.dst (goInt ((min m n : Nat) : Int))) W) :
    wpList Try.prog ops Q (o :: rest) a w := by
  refine wpList_plain hgd fun K hK => ?_
  have hrun := run_cpy hr hsrc hn o.type (dc := dc)
  unfold Oper.wp execOp
  simp only [ho, resolve, invoke, builtin, Sem.run_bind, Sem.run_pure, Result.andThen_ok, List.map_toArray, List.map_cons, List.map_nil, hs, hx, hrun]
  exact hK _ _ (h _ (setRow_heap w g cur _ e _ hr) ⟨rfl, rfl, rfl, by simp, fun k _ hk => setRow_other w g k _ (fun e => hk (by rw [e]))⟩ (Lib.hid (by simp)))

def Dv.new (n : Nat) : Dv := { n := n, S := fun _ => Z, ws := [], down := false, fuse := 0, done := 0 }
theorem Dv.new_ok (n : Nat) (h : n ≤ 65536) : (Dv.new n).Ok := ⟨h, fun _ => rfl, (fun p hp => by cases hp), (show (0 : Nat) < 18446744073709551616 by omega)⟩
set_option maxRecDepth 8000 in
theorem new_good (n : Nat) (w : World) (h1 : 1 ≤ n) (hn : n ≤ 65536) :
    Calls Try.prog 9 #[.int .i64 (n : Int)] w fun e w' => ∃ F g, e = .returned (.pointer (some ⟨g, 0, none⟩)) ∧ Dvc w' w.heap.size g F (Dv.new n) ∧ Below w.heap.size w w' := by
  have d1 : decide ((n : Int) < 1) = false := by simp; omega
  have d2 : decide ((65536 : Int) < (n : Int)) = false := by simp; omega
  obtain ⟨W, hW⟩ : ∃ W, W = ((w.alloc (.map #[] 0)).alloc (.map #[] 0)).alloc (.cells #[.int .i64 (n : Int), .map (some w.heap.size), .slice none 0 0, .map (some (w.heap.size + 1)), .bool false, .int .u64 0, .int .i64 0] 53) := ⟨_, rfl⟩
  have hg := heap_alloc_new ((w.alloc (.map #[] 0)).alloc (.map #[] 0)) (.cells #[.int .i64 (n : Int), .map (some w.heap.size), .slice none 0 0, .map (some (w.heap.size + 1)), .bool false, .int .u64 0, .int .i64 0] 53)
  rw [← hW] at hg
  have hz2 : ((w.alloc (.map #[] 0)).alloc (.map #[] 0)).heap.size = w.heap.size + 2 := by simp
  rw [hz2] at hg
  have hnz : nz (Dv.new n).S = fun _ => none := by funext x; unfold nz Dv.new; simp
  have ms : MapI Try.prog 3 W w.heap.size 0 (nz (Dv.new n).S) := by
    rw [hnz, hW]
    exact ((mapI_made w).kept (World.grownBy_alloc _ _ none) (fun e => by cases e)).kept (World.grownBy_alloc _ _ none) (fun e => by cases e)
  have ml : MapI Try.prog 3 W (w.heap.size + 1) 0 (lastOf (Dv.new n).ws) := by
    rw [hW]
    have := mapI_made (P := Try.prog) (k := 3) (w.alloc (.map #[] 0))
    rw [show (w.alloc (.map #[] 0)).heap.size = w.heap.size + 1 from by simp] at this
    exact this.kept (World.grownBy_alloc _ _ none) (fun e => by cases e)
  have hb : Below w.heap.size w W := by rw [hW]; exact (((Below.refl _ _).alloc (Nat.le_refl _) _).alloc (by simp) _).alloc (by simp; omega) _
  have hdev : Dev W w.heap.size (w.heap.size + 2) w.heap.size (w.heap.size + 1) (.slice none 0 0) 0 (Dv.new n) :=
    ⟨hg, ms, ml, World.ownsRow_nil _ _ _ _, by omega, by omega, by omega, (fun k e => by cases e), by omega, by omega, by omega, Dv.new_ok n hn⟩
  have HD := Lib.hid hdev
  have HB := Lib.hid hb
  have HW := Lib.hid hW
  have hmm := @run_makeMap Try.prog
  clear hdev hb ms ml hnz hz2 hg hW h1 hn
  go_enter Try.func9, Try.ntmps9
  go_wp2
  rw [← HW.out]
  go_ret
  exact ⟨_, w.heap.size + 2, rfl, ⟨_, _, _, 0, HD.out, Nat.le_refl _, fun i => Iff.rfl⟩, HB.out⟩

end Go.Proofs.Ytdmcbojncgdccaa

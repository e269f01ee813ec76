/- Contracts of math/bits: the table in its variable, TrailingZeros64, Len64. -/
import Derived.Test.YtkcpldkdnnhmmaaWords
import Derived.Test.YtkcpldkdnnhmmaaSegs
import Derived.Lib.TrailingZeros
import Derived.Lib.BitFns
import Derived.Lib.ItoaNum
import Derived.Laws.Bits64b
import Derived.Lib.Walk
import Derived.Lib.Small
namespace Go.Proofs.Ytkcpldkdnnhmmaa
open Go.RowKit

section
variable {N : Nat} {W wd : World}
theorem kept (h : Below N W wd) {b o : Nat} {u : Value} (hc : W.cell? ⟨b, o, none⟩ = some u) (hb : b < N := by first | omega | (simp <;> omega)) : wd.cell? ⟨b, o, none⟩ = some u := (h.cell (p := ⟨b, o, none⟩) hb).trans hc
theorem row_here (w : World) (o : Obj) {n : Nat} (hn : n = w.heap.size) : (w.alloc o).heap[n]? = some o := by subst hn; exact heap_alloc_new w o
theorem row_old {w : World} {o' : Obj} (o : Obj) {n : Nat} (h : w.heap[n]? = some o') : (w.alloc o).heap[n]? = some o' := (heap_alloc_old w o (Array.getElem?_eq_some_iff.1 h).1).trans h
theorem row_new {w Y : World} {o o' : Obj} {b : Nat} (hY : Y = w.alloc o) (h : w.heap[b]? = some o') : Y.heap[b]? = some o' := by rw [hY]; exact row_old o h
theorem cellz (h : Below N W wd) {b j : Nat} {cs : Array Value} {t : TypeId} {fr : Nat × Nat} {u : Value} (hr : W.heap[b]? = some (.cells cs t fr)) (hj : cs[j]? = some u) (hb : b < N := by first | omega | (simp <;> omega)) : wd.cell? ⟨b, j, none⟩ = some u := by
  rw [cell_of_row wd b j cs t fr ((h.block b hb).trans hr)]
  exact hj
theorem frozenz (h : Below N W wd) {b : Nat} (j : Nat) {cs : Array Value} {t : TypeId} (hr : W.heap[b]? = some (.cells cs t (0, 0))) (hb : b < N := by first | omega | (simp <;> omega)) : wd.frozen? ⟨b, j, none⟩ = false :=
  frozen_of_row wd b j cs t ((h.block b hb).trans hr)
theorem unalloc {o : Obj} (h : Below N (W.alloc o) wd) (hN : N ≤ W.heap.size) : Below N W wd := ((Below.refl W.heap.size W).alloc (Nat.le_refl _) o).mono hN |>.trans h
end
theorem unal {w w' : World} {o : Obj} (h : Below (w.alloc o).heap.size (w.alloc o) w') : Below w.heap.size w w' := unalloc (h.mono (by simp)) (Nat.le_refl _)
theorem cell_old {w : World} {b j : Nat} {u : Value} (o : Obj) (h : w.cell? ⟨b, j, none⟩ = some u) : (w.alloc o).cell? ⟨b, j, none⟩ = some u :=
  (((Below.refl w.heap.size w).alloc (Nat.le_refl _) o).cell (p := ⟨b, j, none⟩) (World.block_lt_of_cell? w _ h)).trans h
/-- Two and three new blocks. -/
theorem boxes1 (w : World) (p : Array Value) (s : TypeId) : ∃ W, W = w.alloc (.cells p s) ∧ W.heap.size = w.heap.size + 1 ∧ W.heap[w.heap.size]? = some (.cells p s (0, 0)) ∧ Below w.heap.size w W :=
  ⟨_, rfl, by simp, (by first | exact row_here _ _ (by simp) | exact row_old _ (row_here _ _ (by simp)) | exact row_old _ (row_old _ (row_here _ _ (by simp))) | exact row_old _ (row_old _ (row_old _ (row_here _ _ (by simp))))), (Below.refl _ _).alloc (Nat.le_refl _) _⟩
theorem boxes2 (w : World) (p q : Array Value) (s t : TypeId) : ∃ W, W = (w.alloc (.cells p s)).alloc (.cells q t) ∧ W.heap.size = w.heap.size + 2 ∧ W.heap[w.heap.size]? = some (.cells p s (0, 0)) ∧ W.heap[w.heap.size + 1]? = some (.cells q t (0, 0)) ∧ Below w.heap.size w W :=
  ⟨_, rfl, by simp, (by first | exact row_here _ _ (by simp) | exact row_old _ (row_here _ _ (by simp)) | exact row_old _ (row_old _ (row_here _ _ (by simp))) | exact row_old _ (row_old _ (row_old _ (row_here _ _ (by simp))))), (by first | exact row_here _ _ (by simp) | exact row_old _ (row_here _ _ (by simp)) | exact row_old _ (row_old _ (row_here _ _ (by simp))) | exact row_old _ (row_old _ (row_old _ (row_here _ _ (by simp))))), ((Below.refl _ _).alloc (Nat.le_refl _) _).alloc (by simp) _⟩
theorem boxes3 (w : World) (p q r : Array Value) (s t u : TypeId) : ∃ W, W = ((w.alloc (.cells p s)).alloc (.cells q t)).alloc (.cells r u) ∧ W.heap.size = w.heap.size + 3 ∧ W.heap[w.heap.size]? = some (.cells p s (0, 0)) ∧ W.heap[w.heap.size + 1]? = some (.cells q t (0, 0)) ∧ W.heap[w.heap.size + 2]? = some (.cells r u (0, 0)) ∧ Below w.heap.size w W :=
  ⟨_, rfl, by simp, (by first | exact row_here _ _ (by simp) | exact row_old _ (row_here _ _ (by simp)) | exact row_old _ (row_old _ (row_here _ _ (by simp))) | exact row_old _ (row_old _ (row_old _ (row_here _ _ (by simp))))), (by first | exact row_here _ _ (by simp) | exact row_old _ (row_here _ _ (by simp)) | exact row_old _ (row_old _ (row_here _ _ (by simp))) | exact row_old _ (row_old _ (row_old _ (row_here _ _ (by simp))))), (by first | exact row_here _ _ (by simp) | exact row_old _ (row_here _ _ (by simp)) | exact row_old _ (row_old _ (row_here _ _ (by simp))) | exact row_old _ (row_old _ (row_old _ (row_here _ _ (by simp))))), (((Below.refl _ _).alloc (Nat.le_refl _) _).alloc (by simp) _).alloc (by simp; omega) _⟩
theorem ret_u64 {a b : Int} (h : a = b) : Ending.returned (.int .u64 a) = .returned (.int .u64 b) := by rw [h]
theorem ret_bool {a b : Bool} (h : a = b) : Ending.returned (.bool a) = .returned (.bool b) := by rw [h]
theorem u64w (x : Int) (h : 0 ≤ x) (h2 : x < 18446744073709551616) : IntKind.u64.wrap x = x := by
  simp only [IntKind.wrap_u64]; omega

/-- The table in its variable. -/
def Tab (w : World) : Prop := 0 < w.heap.size ∧ ∀ j, j < 64 → w.cell? ⟨0, j, none⟩ = some (.int .u8 ((Lib.deBruijn64tab.getD j 0 : Nat) : Int))
theorem Tab.below {w w' : World} (h : Tab w) (hb : Below w.heap.size w w') : Tab w' := ⟨Nat.lt_of_lt_of_le h.1 hb.size, fun j hj => kept hb (h.2 j hj) h.1⟩
theorem Tab.step {w W w' : World} (h : Tab w) (hb : Below W.heap.size W w') (hw : Below w.heap.size w W) : Tab w' := h.below (hw.trans (hb.mono hw.size))

theorem tz_key (x a : Nat) (hx : x < 18446744073709551616) (hlow : x &&& (18446744073709551616 - x) = a) (hx0 : x ≠ 0) :
    IntKind.u64.wrap (bits BinOp.and IntKind.u64 (x : Int) (IntKind.u64.wrap (-(x : Int))) * 285870213051353865) / 288230376151711744 = ((a * 285870213051353865 % 18446744073709551616 / 288230376151711744 : Nat) : Int) := by
  have e1 : IntKind.u64.wrap (-(x : Int)) = ((18446744073709551616 - x : Nat) : Int) := by rw [IntKind.wrap_u64]; omega
  rw [e1, bits_and_u64_nat x _ hx (by omega), hlow, IntKind.wrap_u64]
  omega
theorem tab_val (i : Int) (h0 : 0 ≤ i) (h1 : i < 256) (h : i.toNat < Lib.len8tab.size) : (((Lib.len8tab[i.toNat]'h).toNat : Nat) : Int) = ((Lib.bitLen i.toNat : Nat) : Int) := by
  rw [← Lib.len8_of i h0 (by omega)]
  unfold Lib.len8
  rw [ByteArray.getElem?_lt' _ _ h]
  rfl
theorem tab_fin (k b : Nat) (x : Int) (h : b ≤ 8) (hk : k ≤ 56) (e : ((k + b : Nat) : Int) = x) : wrap64 ((k : Int) + wrap64 (b : Int)) = x := by
  rw [← e]
  unfold wrap64
  omega

set_option maxHeartbeats 4000000 in
set_option maxRecDepth 100000 in
theorem len_int (x : Int) (w : World) (h0 : 0 ≤ x) (h1 : x ≤ 18446744073709551615) :
    Calls Try.prog 65 #[.int .u64 x] w fun e w' => e = .returned (.int .i64 (Lib.bitLen x.toNat : Int)) ∧ w = w' := by
  have t9 := Try.underlying9
  go_enter Try.func65, Try.ntmps65
  go_wp2
  all_goals (first | (exfalso; rw [Lib.len8tab_size] at *; omega) | (go_ret; refine ⟨congrArg Ending.returned (congrArg (Value.int IntKind.i64) ?_), rfl⟩))
  all_goals first
    | (rw [tab_val (x / 4294967296 / 65536 / 256) (by omega) (by omega)]
       have e : (x / 4294967296 / 65536 / 256).toNat = x.toNat / 72057594037927936 := by omega
       have l := Lib.bitLen_le8' (x / 4294967296 / 65536 / 256) (by omega) (by omega)
       have s := Lib.bitLen_shift56 x.toNat (by omega) (by omega)
       rw [e] at l ⊢
       exact tab_fin 56 _ _ l (by omega) (by omega))
    | (rw [tab_val (x / 4294967296 / 65536) (by omega) (by omega)]
       have e : (x / 4294967296 / 65536).toNat = x.toNat / 281474976710656 := by omega
       have l := Lib.bitLen_le8' (x / 4294967296 / 65536) (by omega) (by omega)
       have s := Lib.bitLen_shift48 x.toNat (by omega) (by omega)
       rw [e] at l ⊢
       exact tab_fin 48 _ _ l (by omega) (by omega))
    | (rw [tab_val (x / 4294967296 / 256) (by omega) (by omega)]
       have e : (x / 4294967296 / 256).toNat = x.toNat / 1099511627776 := by omega
       have l := Lib.bitLen_le8' (x / 4294967296 / 256) (by omega) (by omega)
       have s := Lib.bitLen_shift40 x.toNat (by omega) (by omega)
       rw [e] at l ⊢
       exact tab_fin 40 _ _ l (by omega) (by omega))
    | (rw [tab_val (x / 4294967296) (by omega) (by omega)]
       have e : (x / 4294967296).toNat = x.toNat / 4294967296 := by omega
       have l := Lib.bitLen_le8' (x / 4294967296) (by omega) (by omega)
       have s := Lib.bitLen_shift32 x.toNat (by omega) (by omega)
       rw [e] at l ⊢
       exact tab_fin 32 _ _ l (by omega) (by omega))
    | (rw [tab_val (x / 65536 / 256) (by omega) (by omega)]
       have e : (x / 65536 / 256).toNat = x.toNat / 16777216 := by omega
       have l := Lib.bitLen_le8' (x / 65536 / 256) (by omega) (by omega)
       have s := Lib.bitLen_shift24 x.toNat (by omega) (by omega)
       rw [e] at l ⊢
       exact tab_fin 24 _ _ l (by omega) (by omega))
    | (rw [tab_val (x / 65536) (by omega) (by omega)]
       have e : (x / 65536).toNat = x.toNat / 65536 := by omega
       have l := Lib.bitLen_le8' (x / 65536) (by omega) (by omega)
       have s := Lib.bitLen_shift16 x.toNat (by omega) (by omega)
       rw [e] at l ⊢
       exact tab_fin 16 _ _ l (by omega) (by omega))
    | (rw [tab_val (x / 256) (by omega) (by omega)]
       have e : (x / 256).toNat = x.toNat / 256 := by omega
       have l := Lib.bitLen_le8' (x / 256) (by omega) (by omega)
       have s := Lib.bitLen_shift8 x.toNat (by omega) (by omega)
       rw [e] at l ⊢
       exact tab_fin 8 _ _ l (by omega) (by omega))
    | (rw [tab_val x (by omega) (by omega)]
       have l := Lib.bitLen_le8' x (by omega) (by omega)
       have := tab_fin 0 _ _ l (by omega) rfl
       simpa using this)
theorem len_any (x : Nat) (w : World) (hx : x < 18446744073709551616) :
    Calls Try.prog 65 #[.int .u64 (x : Int)] w fun e w' => e = .returned (.int .i64 ((Lib.bitLen x : Nat) : Int)) ∧ w = w' :=
  len_int (x : Int) w (by omega) (by omega)

end Go.Proofs.Ytkcpldkdnnhmmaa

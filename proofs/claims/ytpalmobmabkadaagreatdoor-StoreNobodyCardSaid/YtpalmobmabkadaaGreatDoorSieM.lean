/- A store that no call made, whatever is called; loads at an offset; a slice of one call. Loads of an entry and of an image in the middle of a row of a call. -/
import Derived.Test.YtpalmobmabkadaaGreatDoorSnilM
import Derived.Test.YtpalmobmabkadaaGreatDoorSlvM
import Derived.Test.YtpalmobmabkadaaGreatDoorTqM
namespace Go.Proofs.YtpalmobmabkadaaGreatDoor
open Go.RowKit
set_option maxRecDepth 20000

section
variable {P : Program} {w : World} {ops : Array Oper} {rest : List Oper} {o : Oper} {a : Act} {Q : Exit → Act → World → Prop}
theorem wpL_midw (hw : Region.wanted o (yielded ops a.tmps) = true) (ty : TypeId) (x : Operand) (ho : o.op = .load ty x) (b off : Nat) (hx : a.eval x = .pointer (some ⟨b, off, none⟩)) (cs : List Value) (d : TypeDesc) (hc : w.rangeAt b off cs)
    (hu : P.underlying ty = some d) (hd : d.isRow = true) (hi : (P.info? ty).map (·.size) = some cs.length) (h : wpList P ops Q rest (a.put o.dst (.agg cs.toArray)) w) : wpList P ops Q (o :: rest) a w :=
  wpL_val hw _ (by simp only [execOp, ho, hx, Sem.run_bind, run_loadAt_mid w b off ty cs d hc hu hd hi, Result.andThen_ok, Sem.run_pure]) h
end
theorem build_bare (w : World) : (Instr.build 72 #[]).run Tryz.prog w = .ok (.agg (scells none none none none ⟨0, 0, 0, 0, T0, 0⟩).toArray) w := run_build w _ _ _ (by kernel_rfl)
theorem row_rng {w : World} {b : Nat} {cs : List Value} {t : TypeId} (h : w.heap[b]? = some (.cells cs.toArray t (0, 0))) : w.rangeAt b 0 cs := by
  intro j u hu
  rw [cell_of_row w b (0 + j) _ _ _ h, Nat.zero_add, List.getElem?_toArray]
  exact hu
theorem slc_one {W : World} {b : Nat} {o : O16} (h : W.heap[b]? = some (.cells o.list.toArray 50 (0, 0))) (hr : o.Reads W) : Slc O16.lay W (some ⟨b, 0, none⟩) 1 1 [o] := by
  refine ⟨⟨Nat.le_refl _, by decide, by rw [O16.lay.flat_len]; rfl, fun _ => ⟨b, 0, rfl, (Array.getElem?_eq_some_iff.1 h).1, fun j u hu => ?_⟩⟩, rfl, fun p hp => by obtain rfl := List.mem_singleton.1 hp; exact hr⟩
  rw [Nat.zero_add]
  have e : O16.lay.flat [o] = o.list ++ [] := rfl
  rw [e, List.append_nil] at hu
  exact row_at h j u hu
theorem span_rng {w : World} {b : Nat} {x y : Value} {t : TypeId} (h : w.heap[b]? = some (.cells #[x, y] t (0, 0))) : w.cell? ⟨b, 0, none⟩ = some x ∧ w.cell? ⟨b, 1, none⟩ = some y := by
  rw [cell_of_row w b 0 _ _ _ h, cell_of_row w b 1 _ _ _ h]
  exact ⟨rfl, rfl⟩
/-- A store that no call made. -/
structure Idle (G : Option Addr) (W0 : World) : Prop where
  read : ∀ W, Below W0.heap.size W0 W → ∀ f c : Nat, Calls Tryz.prog 25 #[.pointer G, .agg #[.int .u32 (f : Int), .int .u32 (c : Int)]] W fun e w' => e = .returned (.tuple #[.string ⟨#[]⟩, .int .i64 1]) ∧ Below W.heap.size W w'
  image : ∀ W, Below W0.heap.size W0 W → Calls Tryz.prog 17 #[.pointer G] W fun e w' => e = .returned (.tuple #[imv I0, .int .i64 1]) ∧ Below W.heap.size W w'
  app : ∀ W, Below W0.heap.size W0 W → ∀ e0 : E16, Calls Tryz.prog 20 #[.pointer G, e16v e0] W fun e w' => e = .returned (.int .i64 1) ∧ Below W.heap.size W w'
  save : ∀ W, Below W0.heap.size W0 W → Calls Tryz.prog 26 #[.pointer G] W fun e w' => e = .returned (.int .i64 1) ∧ Below W.heap.size W w'
  imp : ∀ W, Below W0.heap.size W0 W → ∀ i : Im, Calls Tryz.prog 27 #[.pointer G, imv i] W fun e w' => e = .returned (.int .i64 1) ∧ Below W.heap.size W w'
  blocks : ∀ W, Below W0.heap.size W0 W → Calls Tryz.prog 23 #[.pointer G] W fun e w' => e = .returned (.int .u32 0) ∧ W = w'
  marks : ∀ W, Below W0.heap.size W0 W → Calls Tryz.prog 28 #[.pointer G] W fun e w' => e = .returned (.agg #[.int .u64 0, .int .u64 0]) ∧ Below W.heap.size W w'
  saved : ∀ W, Below W0.heap.size W0 W → Calls Tryz.prog 24 #[.pointer G] W fun e w' => e = .returned (.int .u64 0) ∧ W = w'
  done : ∀ W, Below W0.heap.size W0 W → Calls Tryz.prog 29 #[.pointer G] W fun e w' => e = .returned (tbv T0) ∧ Below W.heap.size W w'
theorem idle_nil (W0 : World) : Idle none W0 :=
  ⟨fun W _ f c => sReads_nil f c W, fun W _ => simage_nil W, fun W _ e0 => sapply_nil e0 W, fun W _ => ssave_nil W, fun W _ i => simport_nil i W, fun W _ => sblocks_nil W, fun W _ => smarks_nil W, fun W _ => ssaved_nil W, fun W _ => sdone_nil W⟩
theorem idle_bare {W0 : World} {S : Nat} (h : Srow W0 S none none none none ⟨0, 0, 0, 0, T0, 0⟩) : Idle (some ⟨S, 0, none⟩) W0 :=
  ⟨fun _ hb f c => sReads_bare (h.below hb) f c, fun _ hb => simage_bare (h.below hb), fun _ hb e0 => sapply_bare (h.below hb) e0, fun _ hb => ssave_bare (h.below hb), fun _ hb i => simport_bare (h.below hb) i, fun _ hb => sblocks_any (h.below hb), fun _ hb => smarks_any (h.below hb), fun _ hb => ssaved_any (h.below hb), fun _ hb => sdone_any (h.below hb)⟩
end Go.Proofs.YtpalmobmabkadaaGreatDoor

namespace Go.Proofs.YtpalmobmabkadaaGreatDoor
open Go.RowKit
set_option maxRecDepth 20000

section
variable {P : Program} {w : World} {ops : Array Oper} {rest : List Oper} {o : Oper} {a : Act} {Q : Exit → Act → World → Prop}
theorem wpL_mids (hw : Region.wanted o (yielded ops a.tmps) = true) (ty : TypeId) (x : Operand) (ho : o.op = .load ty x) (p : Value) (hx : a.eval x = p) (V : Value) (hl : (Instr.loadAt ty p).run P w = .ok V w)
    (h : wpList P ops Q rest (a.put o.dst V) w) : wpList P ops Q (o :: rest) a w :=
  wpL_val hw _ (by simp only [execOp, ho, hx, hl, Sem.run_bind, Result.andThen_ok, Sem.run_pure]) h
theorem wpL_midk (hw : Region.wanted o (yielded ops a.tmps) = true) (ty : TypeId) (x : Operand) (ho : o.op = .load ty x) (p : Value) (hx : a.eval x = p) (V : Value) (hl : (Instr.loadAt ty p).run P w = .ok V w)
    (h : ∀ K : Act → World → Prop, (∀ a w, wpList P ops Q rest a w → K a w) → K (a.put o.dst V) w) : wpList P ops Q (o :: rest) a w :=
  wpL_mids hw ty x ho p hx V hl (h _ (fun _ _ h => h))
end
theorem entry_loads {W : World} {b : Nat} {o : O16} (h : W.heap[b]? = some (.cells o.list.toArray 50 (0, 0))) : (Instr.loadAt 47 (.pointer (some ⟨b, 1, none⟩))).run Tryz.prog W = .ok (e16v o.e) W :=
  run_loadAt_mid W b 1 _ (e16cs o.e) _ (row_e h) Tryz.underlying47 rfl entry_size
theorem image_loads {W : World} {b : Nat} {o : O16} (h : W.heap[b]? = some (.cells o.list.toArray 50 (0, 0))) : (Instr.loadAt 43 (.pointer (some ⟨b, 11, none⟩))).run Tryz.prog W = .ok (imv o.i) W :=
  run_loadAt_mid W b 11 _ (icells o.i) _ (row_i h) imA.und rfl (by rw [imA.size, icells_19 o.i8])
end Go.Proofs.YtpalmobmabkadaaGreatDoor

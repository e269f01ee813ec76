/- The keys of no map. -/
import Derived.Test.YtenloljcaolkfaaBkeys
import Derived.Laws.IdiomRangeMap
namespace Go.Proofs.Ytenloljcaolkfaa
open Go.RowKit Go.Maps

theorem grown_of {w w' : World} (h : Below w.heap.size w w') : w.grownBy w' none := ⟨h.os, h.tape, h.output, h.size, fun i hi _ => h.block i hi⟩
set_option maxRecDepth 100000 in
set_option maxHeartbeats 1000000 in
theorem keys_nil (n : Nat) (hn : 1 ≤ n) (Bm : Nat) (w : World) (hBm : Bm < w.heap.size) (hm : w.cell? ⟨Bm, 0, none⟩ = some (.map none)) :
    SeqStopsA Fence.wide n Try.prog 37 #[.pointer (some ⟨Bm, 0, none⟩)] encB (fun ss => ss.Nodup ∧ ∀ x : Nat, x ∈ ss ↔ ((fun _ => none : SaysB) x).isSome = true) (fun _ => True) 0 w := fun l J Jx W hW hJ _ hY h0 => by
  have hm' := (hW.cell (p := ⟨Bm, 0, none⟩) hBm).trans hm
  have hrn := run_range_nilMap (P := Try.prog) W 44 3 23 Try.underlying44
  have hnn := fun ty => run_next_nilMap (P := Try.prog) W ty 0 0 #[]
  have HJ := Lib.hid (hJ [] W (W.alloc (.mapIter none 0 #[] 0)) none h0 ((Below.refl W.heap.size W).alloc (Nat.le_refl _) _ |> grown_of) (fun r e => by cases e))
  clear hm hBm hY h0 hJ
  refine callsIn_of_wp Try.func37 rfl trivial ?_ rfl
  simp only [Try.ntmps37, List.size_toArray, List.length_cons, List.length_nil, Nat.reduceAdd, Nat.reduceSub, Array.replicate_succ, Array.replicate_zero, List.push_toArray, List.append_toArray, List.nil_append, List.cons_append]
  gi_wp2
  try go_frame
  gi_loopw [3] (fun _ wr => wr = W.alloc (.mapIter none 0 #[] 0)) (fun _ _ => 0)
  case atStart => rfl
  case round =>
    subst hrel
    gi_wp2
    go_end0
    exact ⟨⟨_, rfl⟩, .inl ⟨[], ⟨List.nodup_nil, fun x => by simp⟩, HJ.out⟩⟩
end Go.Proofs.Ytenloljcaolkfaa

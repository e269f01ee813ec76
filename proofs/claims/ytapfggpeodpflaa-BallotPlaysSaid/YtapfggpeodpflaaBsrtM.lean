/- What an iterator gives, collected and sorted: Collect, Sort of nothing, Sorted. -/
import Derived.Test.YtapfggpeodpflaaBcolM
namespace Go.Proofs.Ytapfggpeodpflaa
open Go.RowKit
attribute [local go_sem] Oper.semAt_some

set_option maxHeartbeats 2000000 in
set_option maxRecDepth 8000 in
theorem collect_in (n : Nat) (hn : 4 ≤ n) (g : Nat) (lb : Array Value) (eg : ∀ args w, (callFunc g args).run Try.prog w = .ok (.enter g args) w) (S Sp : List Nat → Prop) (N : Nat) (hN : N ≤ 1000000) (w : World)
    (hseq : SeqStopsA Fence.wide (n - 1 - 1) Try.prog g lb encB S Sp N w) :
    CallsIn Fence.wide n Try.prog 35 #[.func (.func g) #[] lb] w (Coll S w) := by
  have HC := Lib.hid (appseq_in (n - 1) (by omega) g lb eg S Sp N hN w hseq)
  clear hseq
  refine callsIn_of_wp Try.func35 rfl trivial ?_ rfl
  simp only [Try.ntmps35, List.size_toArray, List.length_nil, List.length_cons, Nat.reduceAdd, Nat.reduceSub, Array.replicate_succ, Array.replicate_zero, List.push_toArray, List.append_toArray, List.nil_append, List.cons_append]
  gi_wp2
  refine ⟨trivial, fun _ => by omega, HC.out.mono ?_⟩
  rintro e w2 ⟨A, c, ss, rfl, hS, ho, hb⟩
  gi_wp2
  go_ret
  exact ⟨A, c, ss, rfl, hS, ho, hb⟩
end Go.Proofs.Ytapfggpeodpflaa
namespace Go.Proofs.Ytapfggpeodpflaa.Qu
open Go.RowKit
theorem arr_own {w : World} {base n g cap : Nat} {l : List Nat} (_ : l.length = n) (h : w.ownsRow base 3 1 (.slice (some ⟨g, 0, none⟩) n cap) n (ins l)) : Arr w g l.toArray := by
  refine ⟨(h.lt g rfl).2, fun i hi => ?_, fun i hi => h.frozenAt i⟩
  have hi : i < l.length := by simpa using hi
  have := h.cells (g := g) rfl i (.int .i64 ((l[i] : Nat) : Int)) (by unfold ins; rw [List.getElem?_map, List.getElem?_eq_getElem hi]; rfl)
  rw [addOff, Nat.zero_add] at this
  rw [this]
  simp [hi]
theorem ins_none (A : Option Addr) (c : Nat) (w : World) : Calls Try.prog 55 #[.slice A 0 c, .int .i64 0, .int .i64 0] w fun e w' => e = .returned (.tuple #[]) ∧ w = w' := by
  go_enter Try.func55, Try.ntmps55
  go_wp2_with (fail)
  refine wp_loop_rounds 1 ?_
  rw [rounds_succ]
  go_wp2
  go_end0
  exact ⟨rfl, rfl⟩
theorem pdq_none (A : Option Addr) (c : Nat) (l : Int) (w : World) : Calls Try.prog 48 #[.slice A 0 c, .int .i64 0, .int .i64 0, .int .i64 l] w fun e w' => e = .returned (.tuple #[]) ∧ w = w' := by
  have hI := fun W => ins_none A c W
  set_option maxRecDepth 100000 in
  go_enter Try.func48, Try.ntmps48
  go_wp2
  refine wp_loop_rounds 1 ?_
  rw [rounds_succ]
  go_wp2_with (go_at_call 55; refine (hI _).mono ?_; rintro e w' ⟨rfl, rfl⟩)
  (try simp only [Exit.inBlock, Exit.then]); refine bodyPost_ret (results_none rfl _ _ _) rfl ?_
  exact ⟨rfl, rfl⟩
theorem sort_none (A : Option Addr) (c : Nat) (w : World) : Calls Try.prog 36 #[.slice A 0 c] w fun e w' => e = .returned (.tuple #[]) ∧ w = w' := by
  have hL : ∀ W, Calls Try.prog 49 #[.int .u64 0] W (fun e w' => e = .returned (.int .i64 ((Lib.bitLen 0 : Nat) : Int)) ∧ W = w') := fun W => len_any 0 W (by decide)
  have hP := fun (l : Int) W => pdq_none A c l W
  go_enter Try.func36, Try.ntmps36
  go_wp2_with (first
    | (go_at_call 49; (with_reducible refine (hL _).mono ?_); rintro e w' ⟨rfl, rfl⟩)
    | (go_at_call 48; refine (hP _ _).mono ?_; rintro e w' ⟨rfl, rfl⟩)
    | fail)
  go_end0
  exact ⟨rfl, rfl⟩
end Go.Proofs.Ytapfggpeodpflaa.Qu

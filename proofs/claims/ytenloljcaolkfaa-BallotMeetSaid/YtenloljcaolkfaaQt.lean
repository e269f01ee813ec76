/- slices.Sort as far as twelve numbers; what is told of nodes; the chapter's example. -/
import Derived.Test.YtenloljcaolkfaaQi
import Derived.Test.YtenloljcaolkfaaQd
namespace Go.Proofs.Ytenloljcaolkfaa.Qu
open Go.RowKit
open Go.Sort (insertionSort)

theorem tab_val (i : Int) (h0 : 0 ≤ i) (h1 : i < 256) (h : i.toNat < Lib.len8tab.size) : (((Lib.len8tab[i.toNat]'h).toNat : Nat) : Int) = ((Lib.bitLen i.toNat : Nat) : Int) := by
  rw [← Lib.len8_of i h0 (by omega)]
  unfold Lib.len8
  rw [ByteArray.getElem?_lt' _ _ h]
  rfl
theorem tab_fin (k b : Nat) (x : Int) (h : b ≤ 8) (hk : k ≤ 56) (e : ((k + b : Nat) : Int) = x) : wrap64 ((k : Int) + wrap64 (b : Int)) = x := by
  rw [← e]
  unfold wrap64
  omega
set_option maxHeartbeats 1000000 in
set_option maxRecDepth 100000 in
theorem len_small (x : Int) (w : World) (h0 : 0 ≤ x) (h1 : x ≤ 199) :
    Calls Try.prog 65 #[.int .u64 x] w fun e w' => e = .returned (.int .i64 (Lib.bitLen x.toNat : Int)) ∧ w = w' := by
  have t9 := Try.underlying9
  go_enter Try.func65, Try.ntmps65
  go_wp2
  all_goals (first | (exfalso; rw [Lib.len8tab_size] at *; omega) | (go_ret; refine ⟨congrArg Ending.returned (congrArg (Value.int IntKind.i64) ?_), rfl⟩))
  rw [tab_val x (by omega) (by omega)]
  have l := Lib.bitLen_le8' x (by omega) (by omega)
  unfold wrap64
  omega
theorem len_any (n : Nat) (w : World) (h : n ≤ 199) :
    Calls Try.prog 49 #[.int .u64 (n : Int)] w fun e w' => e = .returned (.int .i64 (Lib.bitLen n : Int)) ∧ w = w' := by
  have hA := len_small (n : Int) w (by omega) (by omega)
  rw [Int.toNat_natCast] at hA
  generalize Lib.bitLen n = l at *
  go_enter Try.func49, Try.ntmps49
  go_wp2_with (go_at_call 65; (with_reducible refine hA.mono ?_); rintro e w' ⟨rfl, rfl⟩)
  go_ret
  exact ⟨rfl, rfl⟩
/-- What a sort leaves. -/
def Sorted (w : World) (g : Nat) (D : Array Nat) (e : Ending) (w' : World) : Prop := e = .returned (.tuple #[]) ∧ Arr w' g D ∧ Trn w g w'
theorem pdq_few {w : World} {g n c : Nat} {d : Array Nat} (l : Int) (h : Arr w g d) (hd : d.size = n) (hn : n ≤ 12) :
    Calls Try.prog 48 #[.slice (some ⟨g, 0, none⟩) n c, .int .i64 0, .int .i64 (n : Int), .int .i64 l] w (Sorted w g (insertionSort ltN d 0 n)) := by
  have hI := Lib.hid (ins_any (c := c) 0 n h hd (Nat.zero_le _) (Nat.le_refl _) (by omega))
  generalize insertionSort ltN d 0 n = D at *
  have hn12 : (n : Int) ≤ 12 := by omega
  have hn0 : 0 ≤ (n : Int) := by omega
  have d1 : decide (n ≤ 12) = true := by simpa using hn
  clear h hd hn
  set_option maxRecDepth 100000 in
  go_enter Try.func48, Try.ntmps48
  go_wp2
  refine wp_loop_rounds 1 ?_
  rw [rounds_succ]
  go_wp2_with (go_at_call 55; refine hI.out.mono ?_; rintro e w' ⟨rfl, hq⟩)
  (try simp only [Exit.inBlock, Exit.then]); refine bodyPost_ret (results_none rfl _ _ _) rfl ?_
  exact ⟨rfl, hq⟩
theorem sort_of {w : World} {g n c : Nat} {D : Array Nat} (hn : n ≤ 199) (hp : ∀ l : Nat, l ≤ 8 → Calls Try.prog 48 #[.slice (some ⟨g, 0, none⟩) n c, .int .i64 0, .int .i64 (n : Int), .int .i64 (l : Int)] w (Sorted w g D)) :
    Calls Try.prog 36 #[.slice (some ⟨g, 0, none⟩) n c] w (Sorted w g D) := by
  have hL := fun W => len_any n W hn
  have hl8 := Lib.bitLen_le8' (n : Int) (by omega) (by omega)
  rw [Int.toNat_natCast] at hl8
  have hp := Lib.hid (hp _ hl8)
  generalize Lib.bitLen n = l at *
  have hn1 : (n : Int) ≤ 199 := by omega
  have hn0 : 0 ≤ (n : Int) := by omega
  clear hn hl8
  go_enter Try.func36, Try.ntmps36
  go_wp2_with (first
    | (go_at_call 49; (with_reducible refine (hL _).mono ?_); rintro e w' ⟨rfl, rfl⟩)
    | (go_at_call 48; refine hp.out.mono ?_; rintro e w' ⟨rfl, hq⟩)
    | fail)
  go_end0
  exact ⟨rfl, hq⟩
end Go.Proofs.Ytenloljcaolkfaa.Qu

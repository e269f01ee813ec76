/- What the reference tells of an item of a set. -/
import Derived.Test.YtlpckhjmbfeegaaFd
import Derived.Test.YtlpckhjmbfeegaaFe
namespace Go.Proofs.Ytlpckhjmbfeegaa
open Go.RowKit
set_option maxRecDepth 20000
theorem le_byte {s : Nat} (h : s ≤ 127) : u8s (le 1 s) = [Value.int .u8 (s : Int)] := by
  have e : s % 256 = s := by omega
  simp [u8s, le, u8, e]
set_option maxHeartbeats 1000000 in
theorem ritem_any (s t : Nat) (w : World) :
    Calls Try.prog 30 #[.int .u64 (s : Int), .int .u64 (t : Int)] w (Items s t w) := by
  unfold Items itemO
  by_cases h0 : s = 0
  · subst h0
    rw [if_neg (by decide)]
    dsimp only
    go_enter Try.func30, Try.ntmps30
    go_wp2
    refine bodyPost_ret (results_row_tmp rfl _ w.heap.size 62 _ (0, 0) _ rfl (heap_alloc_new w _) Try.underlying62 rfl (by rw [rit_size]; rfl)) rfl ⟨rfl, (Below.refl _ _).alloc (Nat.le_refl _) _⟩
  · have n0 : ¬ (s : Int) = 0 := by omega
    by_cases h1 : 127 < s
    · have n1 : (127 : Int) < (s : Int) := by omega
      rw [if_neg (by simp [Qu.told]; omega)]
      dsimp only
      go_enter Try.func30, Try.ntmps30
      go_wp2
      refine bodyPost_ret (results_row_tmp rfl _ w.heap.size 62 _ (0, 0) _ rfl (heap_alloc_new w _) Try.underlying62 rfl (by rw [rit_size]; rfl)) rfl ⟨rfl, (Below.refl _ _).alloc (Nat.le_refl _) _⟩
    · have n1 : ¬ (127 : Int) < (s : Int) := by omega
      have u1 : IntKind.u8.wrap (s : Int) = (s : Int) := by rw [IntKind.wrap_u8]; omega
      have u2 : (s : Int) % 256 = (s : Int) := by omega
      rw [if_pos (by simp [Qu.told]; omega)]
      dsimp only
      have hR := Qu.rd_lit (w.alloc (.cells #[.int .u64 0, .int .i64 0, .string ⟨#[]⟩] 62)) (cs := #[.int .u8 (s : Int)]) (n := 1) (sz := 1) (le_byte (show s ≤ 127 by omega)) (by rw [le_byte (by omega)]; rfl) (by decide) 5
      rw [show (w.alloc (.cells #[.int .u64 0, .int .i64 0, .string ⟨#[]⟩] 62)).heap.size = w.heap.size + 1 by simp] at hR
      have hb1 : Below w.heap.size w (w.alloc (.cells #[.int .u64 0, .int .i64 0, .string ⟨#[]⟩] 62)) := (Below.refl _ _).alloc (Nat.le_refl _) _
      have hb2 := hb1.alloc hb1.size (.cells #[.int .u8 (s : Int)] 5)
      have hr := row_old (.cells #[.int .u8 (s : Int)] 5) (heap_alloc_new w (.cells #[.int .u64 0, .int .i64 0, .string ⟨#[]⟩] 62))
      have HR := Lib.hid hr
      have HB := Lib.hid hb2
      have f0 := frozen_of_row _ w.heap.size 0 _ _ hr
      have f1 := frozen_of_row _ w.heap.size 1 _ _ hr
      have f2 := frozen_of_row _ w.heap.size 2 _ _ hr
      have c0 := cell_of_row _ w.heap.size 0 _ _ _ hr
      have c1 := cell_of_row _ w.heap.size 1 _ _ _ hr
      have c2 := cell_of_row _ w.heap.size 2 _ _ _ hr
      clear hb1 hb2 hr
      go_enter Try.func30, Try.ntmps30
      go_wp2_with (first
        | (refine wpL_str (o := ⟨some 17, _, _, _, _, _⟩) (A := some ⟨w.heap.size + 1, 0, none⟩) (n := 1) (c := 1) (l := le 1 s) rfl (.tmp 16) 88 9 rfl Try.underlying88 Try.underlying5 Try.underlying9 rfl hR ?_)
        | fail)
      refine bodyPost_ret (results_row_tmp rfl _ w.heap.size 62 _ (0, 0) _ rfl (row_old _ (heap_alloc_new w _)) Try.underlying62 rfl (by rw [rit_size]; rfl)) rfl ⟨rfl, ?_⟩
      exact ((Below.refl _ _).alloc (Nat.le_refl _) _).alloc (by simp) _
end Go.Proofs.Ytlpckhjmbfeegaa

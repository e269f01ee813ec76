/- The chapter's example of layer 7. -/
import Derived.Test.YtdmcbojncgdccaaDevk
namespace Go.Proofs.Ytdmcbojncgdccaa
open Go.RowKit

theorem owns_whole {w : World} {base n g : Nat} {e : TypeId} {xs : List Value} (h : w.ownsRow base e 1 (.slice (some ⟨g, 0, none⟩) n n) n xs) : w.heap[g]? = some (.cells xs.toArray e (0, 0)) := by
  obtain ⟨hl, h2⟩ := h
  rcases h2 with ⟨hv, _⟩ | ⟨g', cap, cur, hv, _, hg, _, _, hcs, htake⟩
  · cases hv
  · cases hv
    rw [hg]
    have e : cur.toList = xs := by
      rw [← htake]
      exact (List.take_of_length_le (by rw [Array.length_toList]; omega)).symm
    rw [← e]
def Z70 : List UInt8 := List.replicate 70 0
def L70 : List UInt8 := 7 :: (List.replicate 63 0 ++ 8 :: List.replicate 5 0)
/-- The device behind the write; behind the crash. -/
def exW : Dv := ((Dv.new 9).write 1 L70 2).1
def exC : Dv := exW.crash [64]
def exB : List UInt8 := exC.bytes 1 2
theorem exB_len : exB.length = 128 := by kernel_rfl
theorem exB_0 : exB[0]? = some 7 := by kernel_rfl
theorem exB_64 : exB[64]? = some 0 := by kernel_rfl
theorem exW_e : ((Dv.new 9).write 1 L70 2).2 = 0 := by kernel_rfl
theorem exW_ws : exW.ws.length = 2 := by kernel_rfl
theorem exW_down : exW.down = false := by kernel_rfl
theorem exC_n : exC.n = 9 := by kernel_rfl

theorem set70 : ((u8s Z70).set 0 (.int .u8 7)).set 64 (.int .u8 8) = u8s L70 := by kernel_rfl
theorem rd_new (w : World) (xs : Array Value) (e : TypeId) (n : Nat) (hn : xs.size = n) (hm : n ≤ maxLen) : Rd (w.alloc (.cells xs e)) (w.alloc (.cells xs e)).heap.size 1 (some ⟨w.heap.size, 0, none⟩) n n xs.toList := Rd.lit w xs e hn hm (by simp)
theorem ex_write {w1 : World} {B g bs bl k : Nat} {v : Value} (hD : Dev w1 B g bs bl v k (Dv.new 9)) :
    Calls Try.prog 16 #[.pointer (some ⟨g, 0, none⟩), .int .i64 1, .slice (some ⟨w1.heap.size, 0, none⟩) 70 70] (w1.alloc (.cells (u8s L70).toArray 5)) fun e w' => e = .returned (.int .i64 0) ∧ ∃ A c, Dev w' B g bs bl (.slice A 2 c) k exW ∧ Keeps (Foot g bs bl v) (w1.alloc (.cells (u8s L70).toArray 5)) w' := by
  have h := write_good (hD.new (World.grownBy_alloc w1 (.cells (u8s L70).toArray 5) none)) rfl 1 _ 70 70 L70 (rd_new w1 (u8s L70).toArray 5 70 (by kernel_rfl) (by unfold maxLen; omega)) (fun _ b o e hf => by cases e; have := (hD.foot_lt hf).2; omega) (by decide) (by decide) (by omega) (by decide) (by omega)
  rw [show ((70 : Nat) + 63) / 64 = 2 from rfl, exW_e] at h
  refine h.mono ?_
  rintro e w2 ⟨rfl, v2, hD2, hK2, _⟩
  obtain ⟨A, c, rfl⟩ := ownsRow_form hD2.waits
  exact ⟨rfl, A, c, hD2, hK2⟩
theorem ex_crash {w2 : World} {B g bs bl k : Nat} {v : Value} (hD : Dev w2 B g bs bl v k exW) (hk : k ≤ 10) :
    Calls Try.prog 15 #[.pointer (some ⟨g, 0, none⟩), .slice (some ⟨w2.heap.size, 0, none⟩) 1 1] (w2.alloc (.cells #[.int .i64 64] 3)) fun e w' => e = .returned (.tuple #[]) ∧ ∃ bl' k', Dev w' B g bs bl' (.slice none 0 0) k' exC ∧ Keeps (Foot g bs bl v) (w2.alloc (.cells #[.int .i64 64] 3)) w' := by
  have h := crash_any (hD.new (World.grownBy_alloc w2 (.cells #[.int .i64 64] 3) none)) (by omega) (by rw [exW_ws]; omega) _ 1 1 [64] (rd_new w2 #[.int .i64 64] 3 1 rfl (by unfold maxLen; omega)) (by omega) (fun _ b o e hf => by cases e; have := (hD.foot_lt hf).2; omega)
  refine h.mono ?_
  rintro e w3 ⟨rfl, bl', k', hD3, _, hK3, _⟩
  exact ⟨rfl, bl', k', hD3, hK3⟩
theorem ex_read {w3 : World} {B g bs bl k : Nat} {v : Value} (hD : Dev w3 B g bs bl v k exC) :
    Calls Try.prog 13 #[.pointer (some ⟨g, 0, none⟩), .int .i64 1, .int .i64 2] w3 fun e w' => ∃ q c, e = .returned (.tuple #[.slice (some ⟨q, 0, none⟩) 128 c, .int .i64 0]) ∧ w'.cell? ⟨q, 0, none⟩ = some (.int .u8 7) ∧ w'.cell? ⟨q, 64, none⟩ = some (.int .u8 0) ∧ Below w3.heap.size w3 w' := by
  refine (read_good hD rfl 1 2 (by omega) (by rw [exC_n]; decide)).mono ?_
  rintro e w4 ⟨v4, rfl, hown, hb⟩
  have h2 := hown.2
  rcases h2 with ⟨e1, e2⟩ | ⟨q, cap, cur, rfl, _⟩
  · omega
  · have c0 := hown.cells (g := q) rfl 0 (u8 7) (by rw [u8s, List.getElem?_map]; show Option.map u8 (exB[0]?) = _; rw [exB_0]; rfl)
    have c64 := hown.cells (g := q) rfl 64 (u8 0) (by rw [u8s, List.getElem?_map]; show Option.map u8 (exB[64]?) = _; rw [exB_64]; rfl)
    rw [addOff] at c0 c64
    exact ⟨q, cap, rfl, c0, c64, hb⟩

set_option maxHeartbeats 4000000 in
set_option maxRecDepth 8000 in
theorem dlives (w : World) : Calls Try.prog 8 #[] w fun e w' => e = .returned (.bool true) ∧ Below w.heap.size w w' := by
  have HNew := Lib.hid (new_good 9 w (by omega) (by omega))
  have hmake : ∀ w, (Instr.makeSlice 31 (.int .i64 70) (.int .i64 70)).run Try.prog w = .ok (.slice (some ⟨w.heap.size, 0, none⟩) 70 70) (w.alloc (.cells (u8s Z70).toArray 5)) := fun _ => by kernel_rfl
  have hneed : ∀ W, Calls Try.prog 14 #[.int .i64 70] W fun e w' => e = .returned (.int .i64 2) ∧ W = w' := fun W => need_any 70 W (by omega) (by omega)
  have HNeed := Lib.hid hneed
  clear hneed
  go_enter Try.func8, Try.ntmps8
  go_wp2_with (first
    | (go_at_call 9; refine HNew.out.mono ?_; rintro e w1 ⟨F, g, rfl, ⟨bs, bl, v, k, hD, hk, hF⟩, hb1⟩; have HK := Lib.hid hk; clear hk)
    | (go_at_call 16; rw [set70]; refine (ex_write hD).mono ?_; rintro e w2 ⟨rfl, A2, c2, hD2, hK2⟩; have cL := hD2.c2)
    | (go_at_call 22; refine (loose_at g 2 _ _ _ cL).mono ?_; rintro e w3 ⟨rfl, rfl⟩)
    | (go_at_call 15; refine (ex_crash hD2 (by have := HK.out; exact Nat.le_trans (Nat.le_trans (Nat.le_add_right _ _) this) (Nat.zero_le _))).mono ?_; rintro e w3 ⟨rfl, bl', k', hD3, hK3⟩)
    | (go_at_call 13; refine (ex_read hD3).mono ?_; rintro e w4 ⟨q, cq, rfl, c0, c64, hb4⟩)
    | (go_at_call 14; refine (HNeed.out _).mono ?_; rintro e w5 ⟨rfl, rfl⟩)
    | fail)
  go_ret
  have hFw : ∀ i, Foot g bs bl v i → w.heap.size ≤ i := fun i hi => (hD.foot_lt hi).1
  have hFw2 : ∀ i, Foot g bs bl (.slice A2 2 c2) i → w.heap.size ≤ i := fun i hi => (hD2.foot_lt hi).1
  have k2 : Below w.heap.size w w2 := (hb1.alloc hb1.size _).trans (hK2.below (by have := hb1.size; simp; omega) hFw)
  have k3 : Below w.heap.size w w3 := (k2.alloc k2.size _).trans (hK3.below (by have := k2.size; simp; omega) hFw2)
  exact ⟨rfl, k3.trans (hb4.mono k3.size)⟩

end Go.Proofs.Ytdmcbojncgdccaa

/- The chapter's example of layer 10, and who is light. -/
import Derived.Test.YtdaniaijlkflcaaVoids
namespace Go.Proofs.Ytdaniaijlkflcaa
open Go.RowKit

def e0 (b : Nat) : En := ⟨5, 0, 0, 0, 0, 0, 3, 2, [], some ⟨b, 0, none⟩, 2, 2, [⟨0, 0, 3, 1⟩, ⟨0, 0, 0, 0⟩]⟩
theorem e0_reads {w : World} {b : Nat} {t : TypeId} {fr : Nat × Nat} (h : w.heap[b]? = some (.cells #[.int .u64 0, .int .u64 0, .int .u32 3, .int .u32 1, .int .u64 0, .int .u64 0, .int .u32 0, .int .u32 0] t fr)) : (e0 b).Reads w := by
  have hlt : b < w.heap.size := (Array.getElem?_eq_some_iff.1 h).1
  refine ⟨show 5 < _ by decide, show 0 < _ by decide, show 0 < _ by decide, show (Lit.int .i64 0).wf = true by decide, ⟨show 0 < _ by decide, show 0 < _ by decide, show 3 < _ by decide, show 2 < _ by decide⟩, by unfold e0 maxLen; simp, ⟨Nat.le_refl _, by unfold e0 maxLen; simp, rfl, fun _ => ⟨b, 0, rfl, hlt, fun j u hu => ?_⟩⟩, rfl, ?_⟩
  · rw [cell_of_row w b (0 + j) _ _ _ h]
    have e : (lks (e0 b).ls) = (#[.int .u64 0, .int .u64 0, .int .u32 3, .int .u32 1, .int .u64 0, .int .u64 0, .int .u32 0, .int .u32 0] : Array Value).toList := rfl
    rw [e] at hu
    simpa using hu
  · intro l hl
    simp [e0] at hl
    rcases hl with rfl | rfl <;> exact ⟨by decide, by decide, by decide, by decide⟩
theorem e0_clash4 (b : Nat) : (e0 b).clash 4 = true := rfl
theorem e0_clash3 (b : Nat) : (e0 b).clash 3 = false := rfl
theorem e0_clash2 (b : Nat) : (e0 b).clash 2 = true := rfl
theorem e0_first (b : Nat) : (e0 b).first = 3 := rfl

set_option maxHeartbeats 4000000 in
theorem lives10 (w : World) : Calls Try.prog 7 #[] w fun r w' => r = .returned (.bool true) ∧ Below w.heap.size w w' := by
  obtain ⟨W, hW, hz, r0, r1, hb⟩ := boxes2 w #[.int .u64 0, .int .u64 0, .int .u32 3, .int .u32 1, .int .u64 0, .int .u64 0, .int .u32 0, .int .u32 0] (e0 w.heap.size).cells 33 28
  have hrd := e0_reads r0
  have hc4 : ∀ W', Below W.heap.size W W' → Calls Try.prog 10 #[.agg (e0 w.heap.size).cells, .int .u64 4] W' fun r w' => r = .returned (.bool ((e0 w.heap.size).clash 4)) ∧ Below W'.heap.size W' w' := fun W' hb' => clash_any (e0 w.heap.size) 4 W' (hrd.below hb') (by decide)
  have hc3 : ∀ W', Below W.heap.size W W' → Calls Try.prog 10 #[.agg (e0 w.heap.size).cells, .int .u64 3] W' fun r w' => r = .returned (.bool ((e0 w.heap.size).clash 3)) ∧ Below W'.heap.size W' w' := fun W' hb' => clash_any (e0 w.heap.size) 3 W' (hrd.below hb') (by decide)
  have hc2 : ∀ W', Below W.heap.size W W' → Calls Try.prog 10 #[.agg (e0 w.heap.size).cells, .int .u64 2] W' fun r w' => r = .returned (.bool ((e0 w.heap.size).clash 2)) ∧ Below W'.heap.size W' w' := fun W' hb' => clash_any (e0 w.heap.size) 2 W' (hrd.below hb') (by decide)
  have hf : ∀ W', Calls Try.prog 19 #[.agg (e0 w.heap.size).cells] W' fun r w' => r = .returned (.int .u64 (((e0 w.heap.size).first : Nat) : Int)) ∧ Below W'.heap.size W' w' := fun W' => first_any (e0 w.heap.size) W' hrd.ix (Nat.le_trans hrd.rd.1 hrd.rd.2.1)
  rw [e0_clash4] at hc4
  rw [e0_clash3] at hc3
  rw [e0_clash2] at hc2
  rw [e0_first] at hf
  have HB := Lib.hid hb
  have HZ := Lib.hid hz
  have H4 := Lib.hid hc4
  have H3 := Lib.hid hc3
  have H2 := Lib.hid hc2
  have HF := Lib.hid hf
  clear hc4 hc3 hc2 hf hrd hb hz
  have hce : (e0 w.heap.size).cells = #[.int .u64 5, .int .u64 0, .int .u64 0, .int .i64 0, .int .u64 0, .int .u64 0, .int .u32 3, .int .u32 2, .string { data := #[] }, .slice (some ⟨w.heap.size, 0, none⟩) 2 2] := rfl
  rw [hce] at hW r1
  clear hce
  go_enter Try.func7, Try.ntmps7
  go_wp2_with (first
      | (go_at_call 19; refine (HF.out _).mono ?_; rintro e w4 ⟨rfl, hb4⟩
         have HB4 := Lib.hid (HB3.out.trans (hb4.mono HB3.out.size))
         clear hb4)
      | (go_at_call 10; have hx := HB2.out; clear hx; refine (H3.out _ HB2.out).mono ?_; rintro e w3 ⟨rfl, hb3⟩
         have hb3' := HB2.out.trans (hb3.mono HB2.out.size)
         have c0 := cellz (j := 0) (u := .int .u64 5) hb3' r1 rfl (by have := HZ.out; omega)
         have c1 := cellz (j := 1) (u := .int .u64 0) hb3' r1 rfl (by have := HZ.out; omega)
         have c2 := cellz (j := 2) (u := .int .u64 0) hb3' r1 rfl (by have := HZ.out; omega)
         have c3 := cellz (j := 3) (u := .int .i64 0) hb3' r1 rfl (by have := HZ.out; omega)
         have c4 := cellz (j := 4) (u := .int .u64 0) hb3' r1 rfl (by have := HZ.out; omega)
         have c5 := cellz (j := 5) (u := .int .u64 0) hb3' r1 rfl (by have := HZ.out; omega)
         have c6 := cellz (j := 6) (u := .int .u32 3) hb3' r1 rfl (by have := HZ.out; omega)
         have c7 := cellz (j := 7) (u := .int .u32 2) hb3' r1 rfl (by have := HZ.out; omega)
         have c8 := cellz (j := 8) (u := .string { data := #[] }) hb3' r1 rfl (by have := HZ.out; omega)
         have c9 := cellz (j := 9) (u := .slice (some ⟨w.heap.size, 0, none⟩) 2 2) hb3' r1 rfl (by have := HZ.out; omega)
         have HB3 := Lib.hid hb3'
         clear hb3 hb3')
      | (go_at_call 10; have hx := HB1.out; clear hx; refine (H2.out _ HB1.out).mono ?_; rintro e w2 ⟨rfl, hb2⟩
         have hb2' := HB1.out.trans (hb2.mono HB1.out.size)
         have b0 := cellz (j := 0) (u := .int .u64 5) hb2' r1 rfl (by have := HZ.out; omega)
         have b1 := cellz (j := 1) (u := .int .u64 0) hb2' r1 rfl (by have := HZ.out; omega)
         have b2 := cellz (j := 2) (u := .int .u64 0) hb2' r1 rfl (by have := HZ.out; omega)
         have b3 := cellz (j := 3) (u := .int .i64 0) hb2' r1 rfl (by have := HZ.out; omega)
         have b4 := cellz (j := 4) (u := .int .u64 0) hb2' r1 rfl (by have := HZ.out; omega)
         have b5 := cellz (j := 5) (u := .int .u64 0) hb2' r1 rfl (by have := HZ.out; omega)
         have b6 := cellz (j := 6) (u := .int .u32 3) hb2' r1 rfl (by have := HZ.out; omega)
         have b7 := cellz (j := 7) (u := .int .u32 2) hb2' r1 rfl (by have := HZ.out; omega)
         have b8 := cellz (j := 8) (u := .string { data := #[] }) hb2' r1 rfl (by have := HZ.out; omega)
         have b9 := cellz (j := 9) (u := .slice (some ⟨w.heap.size, 0, none⟩) 2 2) hb2' r1 rfl (by have := HZ.out; omega)
         have HB2 := Lib.hid hb2'
         clear hb2 hb2')
      | (go_at_call 10; rw [← hW]; refine (H4.out _ (Below.refl _ _)).mono ?_; rintro e w1 ⟨rfl, hb1⟩
         have a0 := cellz (j := 0) (u := .int .u64 5) hb1 r1 rfl (by have := HZ.out; omega)
         have a1 := cellz (j := 1) (u := .int .u64 0) hb1 r1 rfl (by have := HZ.out; omega)
         have a2 := cellz (j := 2) (u := .int .u64 0) hb1 r1 rfl (by have := HZ.out; omega)
         have a3 := cellz (j := 3) (u := .int .i64 0) hb1 r1 rfl (by have := HZ.out; omega)
         have a4 := cellz (j := 4) (u := .int .u64 0) hb1 r1 rfl (by have := HZ.out; omega)
         have a5 := cellz (j := 5) (u := .int .u64 0) hb1 r1 rfl (by have := HZ.out; omega)
         have a6 := cellz (j := 6) (u := .int .u32 3) hb1 r1 rfl (by have := HZ.out; omega)
         have a7 := cellz (j := 7) (u := .int .u32 2) hb1 r1 rfl (by have := HZ.out; omega)
         have a8 := cellz (j := 8) (u := .string { data := #[] }) hb1 r1 rfl (by have := HZ.out; omega)
         have a9 := cellz (j := 9) (u := .slice (some ⟨w.heap.size, 0, none⟩) 2 2) hb1 r1 rfl (by have := HZ.out; omega)
         have HB1 := Lib.hid hb1
         clear hb1)
      | fail)
  go_ret
  exact ⟨rfl, HB.out.trans (HB4.out.mono HB.out.size)⟩

end Go.Proofs.Ytdaniaijlkflcaa

/- The chapter's example of layer 1: its call answers true. -/
import Derived.Test.YthaijdgaleifaaaRefc
namespace Go.Proofs.Ythaijdgaleifaaa
open Go.RowKit

theorem lives_put : u8s ([] ++ puts 3 [258]) = u8s [2, 1, 0] := rfl
theorem lives_num (g : Nat) (w : World) (h : Rdr w g ⟨[2, 1, 0], false⟩) :
    Calls Try.prog 16 #[.pointer (some ⟨g, 0, none⟩), .int .i64 3] w fun e w' => e = .returned (.int .u64 258) ∧ Rdr w' g ⟨[], false⟩ ∧ w.grownBy w' (some g) := by
  have := num_all g ⟨[2, 1, 0], false⟩ 3 w h
  rw [show St.num ⟨[2, 1, 0], false⟩ 3 = (258, ⟨[], false⟩) from rfl] at this
  exact this
theorem lives_end (g : Nat) (w : World) (h : Rdr w g ⟨[], false⟩) :
    Calls Try.prog 26 #[.pointer (some ⟨g, 0, none⟩)] w fun e w' => e = .returned (.int .i64 0) ∧ w = w' := end_any g ⟨[], false⟩ w h

theorem lives1 (w : World) : Calls Try.prog 10 #[] w fun e w' => e = .returned (.bool true) ∧ Below w.heap.size w w' := by
  go_enter Try.func10, Try.ntmps10
  go_wp2_with (first
    | (go_at_call 13; refine (put_good none _ 0 0 1 1 [] [258] 3 _ Rd.nil_ (Rd.lit w #[.int .u64 258] _ rfl (by unfold maxLen; omega) (by simp)) (by omega) (by omega) (by omega)).mono ?_; rintro e w1 ⟨v1, rfl, hown, hb⟩
       rw [lives_put] at hown
       have hz1 := hb.size
       obtain ⟨A, c, rfl⟩ := ownsRow_form hown
       have hrd := ownsRow_rd hown
       obtain ⟨b, o, rfl, hbl, hcell⟩ := hrd.2.2.2 (by decide)
       have HC := Lib.hid hcell
       clear hcell)
    | (go_at_call 15; refine (read_any _ _ _ [2, 1, 0] _ hrd (by omega)).mono ?_; rintro e w2 ⟨g, rfl, hg, hR, hb2⟩
       have c0 : w2.cell? ⟨b, o, none⟩ = some (.int .u8 2) := (hb2.cell (p := ⟨b, o, none⟩) hbl).trans (HC.out 0 _ rfl)
       have c1 : w2.cell? ⟨b, o + 1, none⟩ = some (.int .u8 1) := (hb2.cell (p := ⟨b, o + 1, none⟩) hbl).trans (HC.out 1 _ rfl)
       have c2 : w2.cell? ⟨b, o + 2, none⟩ = some (.int .u8 0) := (hb2.cell (p := ⟨b, o + 2, none⟩) hbl).trans (HC.out 2 _ rfl))
    | (go_at_call 16; refine (lives_num _ _ hR).mono ?_; rintro e w3 ⟨rfl, hR3, hg3⟩)
    | (go_at_call 26; refine (lives_end _ _ hR3).mono ?_; rintro e w4 ⟨rfl, rfl⟩))
  go_ret
  refine ⟨rfl, ?_⟩
  have hb' : Below w.heap.size w w1 := ((Below.refl _ _).alloc (Nat.le_refl _) _).trans (hb.mono (by simp))
  exact (hb'.trans (hb2.mono hb'.size)).grown hg3 (Nat.le_trans hb'.size hb2.size) (fun k e => by cases e; exact Nat.le_trans hb'.size hg)

end Go.Proofs.Ythaijdgaleifaaa

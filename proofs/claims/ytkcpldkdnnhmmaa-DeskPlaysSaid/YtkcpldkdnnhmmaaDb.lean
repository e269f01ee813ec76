/- A desk that is nil, or that no call made. -/
import Derived.Test.YtkcpldkdnnhmmaaDl
namespace Go.Proofs.Ytkcpldkdnnhmmaa
open Go.RowKit
set_option maxRecDepth 20000

def bareD : Dk := ⟨0, 0, 0, [0, 0, 0, 0, 0, 0, 0], []⟩
/-- The row of a desk that no call made. -/
def Bare (w : World) (g : Nat) : Prop := w.heap[g]? = some (.cells (bareD.cells (.slice none 0 0)).toArray 58 (0, 0))
/-- A desk that no call made, or none. -/
def Idle (w : World) (d : Value) : Prop := d = .pointer none ∨ ∃ g, d = .pointer (some ⟨g, 0, none⟩) ∧ Bare w g
theorem Idle.below {w w' : World} {d : Value} (h : Idle w d) (hb : Below w.heap.size w w') : Idle w' d := by
  rcases h with h | ⟨g, h, hg⟩
  · exact .inl h
  · exact .inr ⟨g, h, (hb.block g (Array.getElem?_eq_some_iff.1 hg).1).trans hg⟩
section
variable {w : World} {d : Value}
theorem imade {w : World} {d : Value} (h : Idle w d) : Calls Try.prog 34 #[d] w fun e w' => e = .returned (.bool false) ∧ w = w' := by
  rcases h with rfl | ⟨g, rfl, hg⟩
  · go_enter Try.func34, Try.ntmps34
    go_wp2
    go_ret
    exact ⟨rfl, rfl⟩
  · have c0 : w.cell? ⟨g, 0, none⟩ = some (.int .u64 0) := cell_of_row w g 0 _ _ _ hg
    go_enter Try.func34, Try.ntmps34
    go_wp2
    go_ret
    exact ⟨rfl, rfl⟩
theorem ilen (h : Idle w d) : Calls Try.prog 13 #[d] w fun e w' => e = .returned (.int .i64 0) ∧ w = w' := by
  rcases h with rfl | ⟨g, rfl, hg⟩
  · go_enter Try.func13, Try.ntmps13
    go_wp2
    go_ret
    exact ⟨rfl, rfl⟩
  · have c0 : w.cell? ⟨g, 10, none⟩ = some (.slice none 0 0) := cell_of_row w g 10 _ _ _ hg
    go_enter Try.func13, Try.ntmps13
    go_wp2
    go_ret
    exact ⟨rfl, rfl⟩
theorem iround (h : Idle w d) : Calls Try.prog 14 #[d] w fun e w' => e = .returned (.int .u64 0) ∧ w = w' := by
  rcases h with rfl | ⟨g, rfl, hg⟩
  · go_enter Try.func14, Try.ntmps14
    go_wp2
    go_ret
    exact ⟨rfl, rfl⟩
  · have c0 : w.cell? ⟨g, 2, none⟩ = some (.int .u64 0) := cell_of_row w g 2 _ _ _ hg
    go_enter Try.func14, Try.ntmps14
    go_wp2
    go_ret
    exact ⟨rfl, rfl⟩
theorem isure (h : Idle w d) : Calls Try.prog 15 #[d] w fun e w' => e = .returned (.int .u64 0) ∧ Below w.heap.size w w' := by
  obtain ⟨W, hW, hz, r0, hb⟩ := Qu.boxes1 w #[d] 24
  have HB := Lib.hid hb
  rcases h with rfl | ⟨g, rfl, hg⟩
  · have r00 := cell_of_row W _ 0 _ _ _ r0
    clear hb hz r0
    subst hW
    go_enter Try.func15, Try.ntmps15
    go_wp2
    go_ret
    exact ⟨rfl, HB.out⟩
  · have hg1 : Bare W g := (hb.block g (Array.getElem?_eq_some_iff.1 hg).1).trans hg
    have c0 : W.cell? ⟨g, 0, none⟩ = some (.int .u64 0) := cell_of_row W g 0 _ _ _ hg1
    have r00 := cell_of_row W _ 0 _ _ _ r0
    have hl : Calls Try.prog 28 #[.int .u64 0, .func (.func 29) #[] #[.pointer (some ⟨w.heap.size, 0, none⟩)]] W fun e w' => e = .returned (.int .u64 0) ∧ Below W.heap.size W w' := by
      have := Qu.least_any 0 w.heap.size (fun _ => 0) W (by decide) (by decide +kernel) (fun W' _ k hk => by
        have : Qu.memb 0 = [] := by decide +kernel
        rw [this] at hk
        cases hk)
      rw [show Qu.lst 0 (fun _ => 0) = 0 by decide +kernel] at this
      exact this
    have HL := Lib.hid hl
    clear hb hz r0 hg hg1 hl
    subst hW
    go_enter Try.func15, Try.ntmps15
    go_wp2_with (first
      | (go_at_call 28; refine HL.out.mono ?_; rintro e w3 ⟨rfl, hb3⟩)
      | fail)
    go_ret
    exact ⟨rfl, HB.out.trans (hb3.mono HB.out.size)⟩
theorem iall (h : Idle w d) : Calls Try.prog 12 #[d] w fun e w' => ∃ A c, e = .returned (.slice A 0 c) ∧ Below w.heap.size w w' := by
  have HC : Hid (Calls Try.prog 27 #[.slice none 0 0] w (Copied w [])) := Lib.hid (sclone_any (l := []) Rd.nil_ rfl (by decide))
  unfold Copied at HC
  simp only [List.length_nil] at HC
  rcases h with rfl | ⟨g, rfl, hg⟩
  · go_enter Try.func12, Try.ntmps12
    go_wp2
    go_ret
    exact ⟨none, 0, rfl, Below.refl _ _⟩
  · have c0 : w.cell? ⟨g, 10, none⟩ = some (.slice none 0 0) := cell_of_row w g 10 _ _ _ hg
    go_enter Try.func12, Try.ntmps12
    go_wp2_with (first
      | (go_at_call 27; refine HC.out.mono ?_; clear HC; rintro e w2 ⟨A2, c2, rfl, ho2, hb2⟩)
      | fail)
    go_ret
    exact ⟨A2, c2, rfl, hb2⟩
theorem ibegin (h : Idle w d) : Calls Try.prog 19 #[d] w fun e w' => e = .returned (.int .u64 0) ∧ w = w' := by
  have HM := Lib.hid (imade h)
  clear h
  go_enter Try.func19, Try.ntmps19
  go_wp2_with (first
    | (go_at_call 34; refine HM.out.mono ?_; rintro e w2 ⟨rfl, rfl⟩)
    | fail)
  go_ret
  exact ⟨rfl, rfl⟩
theorem iheard (h : Idle w d) (n : Int) (r : Nat) : Calls Try.prog 20 #[d, .int .i64 n, .int .u64 (r : Int)] w fun e w' => e = .returned (.slice none 0 0) ∧ w = w' := by
  have HM := Lib.hid (imade h)
  clear h
  go_enter Try.func20, Try.ntmps20
  go_wp2_with (first
    | (go_at_call 34; refine HM.out.mono ?_; rintro e w2 ⟨rfl, rfl⟩)
    | fail)
  go_ret
  exact ⟨rfl, rfl⟩
theorem iapplied (h : Idle w d) (L M : Nat) : Calls Try.prog 21 #[d, .agg #[.int .u64 (L : Int), .int .u64 (M : Int)]] w fun e w' => e = .returned (.slice none 0 0) ∧ Below w.heap.size w w' := by
  have hb : Below w.heap.size w (w.alloc (.cells #[.int .u64 (L : Int), .int .u64 (M : Int)] 34)) := (Below.refl _ _).alloc (Nat.le_refl _) _
  have HM := Lib.hid (imade (h.below hb))
  have HB := Lib.hid hb
  clear h hb
  go_enter Try.func21, Try.ntmps21
  go_wp2_with (first
    | (go_at_call 34; refine HM.out.mono ?_; rintro e w2 ⟨rfl, rfl⟩)
    | fail)
  go_ret
  exact ⟨rfl, HB.out⟩
theorem iread (h : Idle w d) (c r f k : Nat) : Calls Try.prog 18 #[d, .int .u64 (c : Int), .int .u64 (r : Int), .agg #[.int .u32 (f : Int), .int .u32 (k : Int)]] w fun e w' => e = .returned (.tuple #[.int .u64 0, .int .i64 1]) ∧ Below w.heap.size w w' := by
  obtain ⟨W, hW, hz, r0, r1, r2, hb⟩ := Qu.boxes3 w #[.int .u64 (c : Int)] #[.int .u64 (r : Int)] #[.int .u32 (f : Int), .int .u32 (k : Int)] 29 29 32
  have HM := Lib.hid (imade (h.below hb))
  have HB := Lib.hid hb
  clear h hb hz r0 r1 r2
  subst hW
  go_enter Try.func18, Try.ntmps18
  go_wp2_with (first
    | (go_at_call 34; refine HM.out.mono ?_; rintro e w2 ⟨rfl, rfl⟩)
    | fail)
  go_ret2
  exact ⟨rfl, HB.out⟩
theorem iwrite (h : Idle w d) (c r i : Nat) : Calls Try.prog 17 #[d, .int .u64 (c : Int), .int .u64 (r : Int), .int .u64 (i : Int)] w fun e w' => e = .returned (.int .i64 1) ∧ Below w.heap.size w w' := by
  obtain ⟨W, hW, hz, r0, r1, hb⟩ := Qu.boxes2 w #[.int .u64 (c : Int)] #[.int .u64 (r : Int)] 29 29
  have HM := Lib.hid (imade (h.below hb))
  have HB := Lib.hid hb
  clear h hb hz r0 r1
  subst hW
  go_enter Try.func17, Try.ntmps17
  go_wp2_with (first
    | (go_at_call 34; refine HM.out.mono ?_; rintro e w2 ⟨rfl, rfl⟩)
    | fail)
  go_ret
  exact ⟨rfl, HB.out⟩
end
end Go.Proofs.Ytkcpldkdnnhmmaa

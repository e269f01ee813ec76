/- A bag beside which nothing of the caller's turns; the chapter's example. -/
import Derived.Test.YtdddknncndjbcaaBagd
namespace Go.Proofs.Ytdddknncndjbcaa
open Go.RowKit
/-- A bag that the caller made, all of it above block B. -/
def St (B : Nat) (w w1 : World) (g : Nat) (t : Bv) : Prop := ∃ v, Bg w1 B g v t ∧ Below B w w1 ∧ B ≤ w1.heap.size
section
variable {B g : Nat} {w w1 w2 : World} {t : Bv}
theorem St.below (h : St B w w1 g t) (hb : Below w1.heap.size w1 w2) : St B w w2 g t := by
  obtain ⟨v, h1, h2, h3⟩ := h
  exact ⟨v, h1.below hb, h2.trans (hb.mono h3), Nat.le_trans h3 hb.size⟩
theorem St.next {v : Value} {t' : Bv} (h1 : Bg w1 B g v t) (h2 : Below B w w1) (h3 : B ≤ w1.heap.size) (k : Mv w1 B g v t' w2) : St B w w2 g t' := by
  obtain ⟨v', k1, k2, _⟩ := k
  exact ⟨v', k1, h2.trans (k2.below h3 (fun i hi => (h1.foot hi).1)), Nat.le_trans h3 k2.size⟩
theorem St.put (h : St B w w1 g t) (x : Int) (hl : t.lost < 1000000) {b : Bool} (hb : (!t.full) = b) : Calls Try.prog 7 #[.pointer (some ⟨g, 0, none⟩), .int .i64 x] w1 fun e w' => e = .returned (.bool b) ∧ St B w w' g (t.put x) := by
  subst hb
  obtain ⟨v, h1, h2, h3⟩ := h
  exact (bput_any h1 h3 x hl).mono fun e w' ⟨k1, k2⟩ => ⟨k1, St.next h1 h2 h3 k2⟩
theorem St.take (h : St B w w1 g t) (i : Int) {y : Int} {b : Bool} (hy : t.get i = y) (hb : t.inb i = b) : Calls Try.prog 8 #[.pointer (some ⟨g, 0, none⟩), .int .i64 i] w1 fun e w' => e = .returned (.tuple #[.int .i64 y, .bool b]) ∧ St B w w' g (t.take i) := by
  subst hy
  subst hb
  obtain ⟨v, h1, h2, h3⟩ := h
  exact (btake_any h1 i).mono fun e w' ⟨k1, k2⟩ => ⟨k1, St.next h1 h2 h3 k2⟩
theorem St.double (h : St B w w1 g t) (i : Int) {y : Int} (hy : t.why i = y) : Calls Try.prog 9 #[.pointer (some ⟨g, 0, none⟩), .int .i64 i] w1 fun e w' => e = .returned (.int .i64 y) ∧ St B w w' g (t.double i) := by
  subst hy
  obtain ⟨v, h1, h2, h3⟩ := h
  exact (bdouble_any h1 h3 i).mono fun e w' ⟨k1, k2⟩ => ⟨k1, St.next h1 h2 h3 k2⟩
theorem St.clear (h : St B w w1 g t) {y : Nat} (hy : t.l.length = y) : Calls Try.prog 10 #[.pointer (some ⟨g, 0, none⟩)] w1 fun e w' => e = .returned (.int .i64 (y : Int)) ∧ St B w w' g t.clear := by
  subst hy
  obtain ⟨v, h1, h2, h3⟩ := h
  exact (bclear_any h1).mono fun e w' ⟨k1, k2⟩ => ⟨k1, St.next h1 h2 h3 k2⟩
theorem St.len (h : St B w w1 g t) {y : Nat} (hy : t.l.length = y) : Calls Try.prog 15 #[.pointer (some ⟨g, 0, none⟩)] w1 fun e w' => e = .returned (.int .i64 (y : Int)) ∧ w1 = w' := by
  subst hy
  obtain ⟨v, h1, h2, h3⟩ := h
  exact len_any h1
theorem St.nlost (h : St B w w1 g t) {y : Nat} (hy : t.lost = y) : Calls Try.prog 16 #[.pointer (some ⟨g, 0, none⟩)] w1 fun e w' => e = .returned (.int .u64 (y : Int)) ∧ w1 = w' := by
  subst hy
  obtain ⟨v, h1, h2, h3⟩ := h
  exact lost_any h1
theorem St.new (n : Nat) (w : World) (h1 : 1 ≤ n) (h2 : n ≤ 256) : Calls Try.prog 6 #[.int .i64 (n : Int)] w fun e w' => e = .returned (.pointer (some ⟨w.heap.size, 0, none⟩)) ∧ St w.heap.size w w' w.heap.size ⟨[], n, 0⟩ :=
  (bnew_any n w h1 h2).mono fun _ _ ⟨k1, k2, k3⟩ => ⟨k1, _, k2, k3, k3.size⟩
end

theorem lives18 (w : World) : Calls Try.prog 5 #[] w fun e w' => e = .returned (.bool true) ∧ Below w.heap.size w w' := by
  have HN := Lib.hid (St.new 2 w (by omega) (by omega))
  go_enter Try.func5, Try.ntmps5
  obtain ⟨g, hg⟩ : ∃ g, g = w.heap.size := ⟨_, rfl⟩
  rw [← hg] at HN
  have HG := Lib.hid hg
  clear hg
  go_wp2_with (first
    | (go_at_call 6; refine HN.out.mono ?_; clear HN; rintro e w2 ⟨rfl, hs0⟩; have S0 := Lib.hid hs0; clear hs0)
    | (go_at_call 7; refine (S0.out.put 1 (by decide) (b := true) (by decide)).mono ?_; clear S0; rintro e w3 ⟨rfl, hs1⟩; have S1 := Lib.hid hs1; clear hs1)
    | (go_at_call 7; refine (S1.out.put 2 (by decide) (b := true) (by decide)).mono ?_; clear S1; rintro e w4 ⟨rfl, hs2⟩; have S2 := Lib.hid hs2; clear hs2)
    | (go_at_call 7; refine (S2.out.put 3 (by decide) (b := false) (by decide)).mono ?_; clear S2; rintro e w5 ⟨rfl, hs3⟩; have S3 := Lib.hid hs3; clear hs3)
    | (go_at_call 8; refine (S3.out.take 0 (y := 1) (b := true) (by decide) (by decide)).mono ?_; clear S3; rintro e w6 ⟨rfl, hs4⟩; have S4 := Lib.hid hs4; clear hs4)
    | (go_at_call 8; refine (S4.out.take 0 (y := 2) (b := true) (by decide) (by decide)).mono ?_; clear S4; rintro e w7 ⟨rfl, hs5⟩; have S5 := Lib.hid hs5; clear hs5)
    | (go_at_call 16; refine (S5.out.nlost (y := 1) (by decide)).mono ?_; rintro e w8 ⟨rfl, rfl⟩)
    | fail)
  go_ret
  obtain ⟨v, _, h2, _⟩ := S5.out
  rw [HG.out] at h2
  exact ⟨rfl, h2⟩
end Go.Proofs.Ytdddknncndjbcaa

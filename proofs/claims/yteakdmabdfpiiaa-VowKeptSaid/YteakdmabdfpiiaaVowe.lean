/- A vow that is opened. -/
import Derived.Test.YteakdmabdfpiiaaVowd
import Derived.Test.YteakdmabdfpiiaaTwlives
namespace Go.Proofs.Yteakdmabdfpiiaa
set_option maxRecDepth 20000
open Go.RowKit

/-- What is promised where a twin has this. -/
def Told (t : Tv) (p : Vv) : Prop := (t.number = 0 ∧ p = ⟨0, 0⟩) ∨ (0 < t.number ∧ t.text = p.text ∧ p.term < 18446744073709551616 ∧ p.vote ≤ 7)
theorem vlast_any {w : World} {T : Nat} {g : Option Addr} {t : Tv} {p : Vv} (h : Tw w T g t) (hp : Told t p) : Calls Try.prog 56 #[.pointer (some ⟨T, 0, none⟩)] w fun e w' => e = .returned (.tuple #[.agg #[.int .u64 (p.term : Int), .int .u64 (p.vote : Int)], .int .i64 0]) ∧ Below w.heap.size w w' := by
  rcases hp with ⟨h1, rfl⟩ | ⟨h1, h2, h3, h4⟩
  · exact vlast_none h h1
  · exact vlast_some h h1 p h2 h3 h4
section
variable {X : Nat → Prop} {w W : World} {B g M : Nat} {d : Dv}
set_option maxHeartbeats 4000000 in
theorem vopn_any (h : Dlx X w W B g M d) (hd : d.down = false) (base : Int) (hb : 0 ≤ base) (hin : base + 2 ≤ d.n) (t : Tv) (ht : t = openTv base 1 (d.bytes base (2 * 1))) (p : Vv) (hp : Told t p) :
    Calls Try.prog 28 #[.pointer (some ⟨g, 0, none⟩), .int .i64 base] W fun e w' => ∃ T V, e = .returned (.tuple #[.pointer (some ⟨V, 0, none⟩), .int .i64 0]) ∧ Vlx X w w' B g T V M d t p ∧ Below W.heap.size W w' := by
  have hop : Calls Try.prog 13 #[.pointer (some ⟨g, 0, none⟩), .int .i64 base, .int .i64 1] W fun e w' => ∃ T, e = .returned (.tuple #[.pointer (some ⟨T, 0, none⟩), .int .i64 0]) ∧ Tlx X w w' B g T M d t ∧ Below W.heap.size W w' := by
    rw [ht]
    exact dlx_open h hd base 1 (by decide) (by decide) hb (by omega)
  have HOP := Lib.hid hop
  have HP := Lib.hid hp
  have hXlt : ∀ i, X i → i < W.heap.size := by obtain ⟨N, _, _, h6, _⟩ := h; exact h6
  have HX := Lib.hid hXlt
  have HWB := Lib.hid h.bel.size
  clear hop hp ht h hd hin hb hXlt
  go_enter Try.func28, Try.ntmps28
  go_wp2_with (first
    | (go_at_call 13; refine HOP.out.mono ?_; rintro e w1 ⟨T, rfl, hT1, hb1⟩)
    | (go_at_call 56; refine (vlast_any hT1.tw HP.out).mono ?_; rintro e w2 ⟨rfl, hb2⟩)
    | fail)
  go_ret2
  have h2 := hT1.below hb2
  have s1 := hb1.size
  have s2 := hb2.size
  obtain ⟨W4, hW4⟩ : ∃ W4, W4 = (w2.alloc (.cells #[.int .u64 (p.term : Int), .int .u64 (p.vote : Int)] 85)).alloc (.cells #[.int .u64 (p.term : Int), .int .u64 (p.vote : Int), .pointer (some ⟨T, 0, none⟩)] 87) := ⟨_, rfl⟩
  have hb4 : Below w2.heap.size w2 W4 := by rw [hW4]; exact ((Below.refl _ _).alloc (Nat.le_refl _) _).alloc (by simp) _
  have r4 : W4.heap[w2.heap.size + 1]? = some (.cells #[.int .u64 (p.term : Int), .int .u64 (p.vote : Int), .pointer (some ⟨T, 0, none⟩)] 87 (0, 0)) := by rw [hW4]; exact row_here _ _ (by simp)
  have z4 : W4.heap.size = w2.heap.size + 2 := by rw [hW4]; simp
  rw [← hW4]
  refine ⟨T, w2.heap.size + 1, by simp, ⟨h2.more hb4 (fun i hi => ?_), r4, by have := h2.bel.size; omega, fun hx => by have := HX.out _ hx; omega⟩, hb1.trans ((hb2.trans (hb4.mono s2)).mono s1)⟩
  rcases hi with hi | rfl
  · exact ⟨.inl hi, by have := HX.out _ hi; omega⟩
  · exact ⟨.inr (by omega), by omega⟩
theorem dlx_new (n : Nat) (w : World) (h1 : 1 ≤ n) (hn : n ≤ 65536) : Calls Try.prog 10 #[.int .i64 (n : Int)] w fun e w' => ∃ g, e = .returned (.pointer (some ⟨g, 0, none⟩)) ∧ Dlx (fun _ => False) w w' w.heap.size g 0 (Dv.new n) := by
  refine (dl_new n w h1 hn).mono ?_
  rintro e w' ⟨g, rfl, N, k1, k4, k6⟩
  exact ⟨g, rfl, N, k1, fun i hi => ⟨k4 i hi, fun h => h⟩, fun _ h => h.elim, k6⟩
end
end Go.Proofs.Yteakdmabdfpiiaa

/- A vow: Raise, Cast and Open. -/
import Derived.Test.YteakdmabdfpiiaaVowc
import Derived.Deep.DeepCutAuto
import Derived.Deep.CutBlock
namespace Go.Proofs.Yteakdmabdfpiiaa
set_option maxRecDepth 20000
open Go.RowKit

/-- What becomes of a promise of a term: an error (or 0), or what is to be saved. -/
def Vv.raised (p : Vv) (x : Nat) : Sum Int Vv := if 4611686018427387904 < x then .inl 30 else if x < p.term then .inl 52 else if x = p.term then .inl 0 else .inr ⟨x, 0⟩
/-- What becomes of a vote. -/
def Vv.casted (p : Vv) (x : Nat) (n : Int) : Sum Int Vv := if 4611686018427387904 < x ∨ n < 0 ∨ 7 ≤ n then .inl 30 else if x < p.term then .inl 52 else if x = p.term ∧ n.toNat + 1 = p.vote then .inl 0 else if x = p.term ∧ p.vote ≠ 0 then .inl 41 else .inr ⟨x, n.toNat + 1⟩
def vstep (d : Dv) (t : Tv) (p : Vv) : Sum Int Vv → Dv × Tv × Vv × Int
  | .inl e => (d, t, p, e)
  | .inr q => vsave d t p q
theorem bel_drewN (W : World) (n : Nat) : Below W.heap.size W (W.drewN n) := ⟨rfl, rfl, rfl, Nat.le_refl _, fun _ _ => rfl⟩
section
variable {X : Nat → Prop} {w W : World} {B g T V M : Nat} {d : Dv} {t : Tv} {p : Vv}
/-- What a call leaves. -/
def Vpost (X : Nat → Prop) (w W : World) (B g T V M : Nat) (r : Dv × Tv × Vv × Int) (e : Ending) (w' : World) : Prop :=
  e = .returned (.int .i64 r.2.2.2) ∧ Vlx X w w' B g T V (M + 80) r.1 r.2.1 r.2.2.1 ∧ Keeps (Off X w) W w'
theorem Vlx.same (h : Vlx X w W B g T V M d t p) (e : Int) {w' : World} (hb : Below W.heap.size W w') : Vpost X w W B g T V M (d, t, p, e) (.returned (.int .i64 e)) w' := ⟨rfl, (h.below hb).le (by omega), Keeps.of_below hb⟩
theorem vraise_nil (x : Int) (w : World) : Calls Try.prog 30 #[.pointer none, .int .u64 x] w fun e w' => e = .returned (.int .i64 1) ∧ w = w' := by
  go_enter Try.func30, Try.ntmps30
  go_wp2_with (first
    | (go_at_call 57; refine (vopen_nil _).mono ?_; rintro e w1 ⟨rfl, rfl⟩)
    | fail)
  go_ret
  exact ⟨rfl, rfl⟩
theorem vraise_bare {V : Nat} {v : Vv} (h : Vw W V none v) (x : Int) : Calls Try.prog 30 #[.pointer (some ⟨V, 0, none⟩), .int .u64 x] W fun e w' => e = .returned (.int .i64 1) ∧ W = w' := by
  have HO := Lib.hid (vopen_bare h)
  clear h
  go_enter Try.func30, Try.ntmps30
  go_wp2_with (first
    | (go_at_call 57; refine HO.out.mono ?_; rintro e w1 ⟨rfl, rfl⟩)
    | fail)
  go_ret
  exact ⟨rfl, rfl⟩
theorem vcast_nil (x n : Int) (w : World) : Calls Try.prog 31 #[.pointer none, .int .u64 x, .int .i64 n] w fun e w' => e = .returned (.int .i64 1) ∧ w = w' := by
  go_enter Try.func31, Try.ntmps31
  go_wp2_with (first
    | (go_at_call 57; refine (vopen_nil _).mono ?_; rintro e w1 ⟨rfl, rfl⟩)
    | fail)
  go_ret
  exact ⟨rfl, rfl⟩
theorem vcast_bare {V : Nat} {v : Vv} (h : Vw W V none v) (x n : Int) : Calls Try.prog 31 #[.pointer (some ⟨V, 0, none⟩), .int .u64 x, .int .i64 n] W fun e w' => e = .returned (.int .i64 1) ∧ W = w' := by
  have HO := Lib.hid (vopen_bare h)
  clear h
  go_enter Try.func31, Try.ntmps31
  go_wp2_with (first
    | (go_at_call 57; refine HO.out.mono ?_; rintro e w1 ⟨rfl, rfl⟩)
    | fail)
  go_ret
  exact ⟨rfl, rfl⟩
set_option maxHeartbeats 4000000 in
theorem vraise_any (h : Vlx X w W B g T V M d t p) (hf : Fit d t) (hM : M ≤ 90000) (x : Nat) :
    Calls Try.prog 30 #[.pointer (some ⟨V, 0, none⟩), .int .u64 (x : Int)] W (Vpost X w W B g T V M (vstep d t p (p.raised x))) := by
  have HO := Lib.hid (vopen_any h.vw)
  have HS : Hid (Calls Try.prog 58 #[.pointer (some ⟨V, 0, none⟩), .agg #[.int .u64 (x : Int), .int .u64 0]] W (Vpost X w W B g T V M (vsave d t p ⟨x, 0⟩))) := Lib.hid (vsave_any h hf hM ⟨x, 0⟩ (Nat.zero_le _))
  have HH := Lib.hid h
  have c0 := h.vw.c0
  unfold Vv.raised
  clear h hf hM
  by_cases h1 : 4611686018427387904 < x
  · rw [if_pos h1]
    have q1 : decide ((4611686018427387904 : Int) < (x : Int)) = true := by simp; omega
    have q1' : (4611686018427387904 : Int) < (x : Int) := by omega
    go_enter Try.func30, Try.ntmps30
    go_wp2_with (first
      | (go_at_call 57; refine HO.out.mono ?_; rintro e w1 ⟨rfl, rfl⟩)
      | fail)
    go_ret
    exact HH.out.same 30 (Below.refl _ _)
  rw [if_neg h1]
  have q1 : decide ((4611686018427387904 : Int) < (x : Int)) = false := by simp; omega
  have q1' : (x : Int) ≤ 4611686018427387904 := by omega
  by_cases h2 : x < p.term
  · rw [if_pos h2]
    have q2' : (x : Int) < (p.term : Int) := by omega
    clear h1
    go_enter Try.func30, Try.ntmps30
    go_wp2_with (first
      | (go_at_call 57; refine HO.out.mono ?_; rintro e w1 ⟨rfl, rfl⟩)
      | fail)
    go_ret
    exact HH.out.same 52 (Below.refl _ _)
  rw [if_neg h2]
  have q2 : decide ((x : Int) < (p.term : Int)) = false := by simp; omega
  have q2n : decide (x < p.term) = false := by simpa using h2
  have q2m : ¬ x < p.term := h2
  have q2k : p.term ≤ x := by omega
  by_cases h3 : x = p.term
  · rw [if_pos h3]
    have q3 : ((x : Int) == (p.term : Int)) = true := by simp [h3]
    have q3' : (x == p.term) = true := by simp [h3]
    clear h1
    go_enter Try.func30, Try.ntmps30
    go_wp2_with (first
      | (go_at_call 57; refine HO.out.mono ?_; rintro e w1 ⟨rfl, rfl⟩)
      | fail)
    go_ret
    exact HH.out.same 0 (Below.refl _ _)
  rw [if_neg h3]
  have q3 : ((x : Int) == (p.term : Int)) = false := by simp; omega
  have q3' : (x == p.term) = false := by simpa using h3
  clear h1 h2 h3
  go_enter Try.func30, Try.ntmps30
  go_wp2_with (first
    | (go_at_call 57; refine HO.out.mono ?_; rintro e w1 ⟨rfl, rfl⟩)
    | (go_at_call 58; refine HS.out.mono ?_; rintro e w1 ⟨rfl, hV1, hk1⟩)
    | fail)
  go_ret
  exact ⟨rfl, hV1, hk1⟩

set_option maxHeartbeats 4000000 in
theorem vcast_any (h : Vlx X w W B g T V M d t p) (hf : Fit d t) (hM : M ≤ 90000) (x : Nat) (n : Int) (hn : (Lit.int .i64 n).wf = true) (hpv : p.vote ≤ 7) :
    Calls Try.prog 31 #[.pointer (some ⟨V, 0, none⟩), .int .u64 (x : Int), .int .i64 n] W (Vpost X w W B g T V M (vstep d t p (p.casted x n))) := by
  have HO := Lib.hid (vopen_any h.vw)
  have HH := Lib.hid h
  have c0 := h.vw.c0
  have c1 := h.vw.c1
  have hlt := h.vw.lt
  have hnw : -9223372036854775808 ≤ n ∧ n ≤ 9223372036854775807 := by
    simp [Lit.wf, IntKind.min, IntKind.max, IntKind.signed, IntKind.bits] at hn
    exact hn
  unfold Vv.casted
  by_cases h1 : 4611686018427387904 < x ∨ n < 0 ∨ 7 ≤ n
  · rw [if_pos h1]
    clear hf hM h
    by_cases g1 : 4611686018427387904 < x
    · have q1' : (4611686018427387904 : Int) < (x : Int) := by omega
      go_enter Try.func31, Try.ntmps31
      go_wp2_with (first
        | (go_at_call 57; refine HO.out.mono ?_; rintro e w1 ⟨rfl, rfl⟩)
        | fail)
      go_ret
      exact HH.out.same 30 (Below.refl _ _)
    · have q1' : (x : Int) ≤ 4611686018427387904 := by omega
      by_cases g2 : n < 0
      · go_enter Try.func31, Try.ntmps31
        go_wp2_with (first
          | (go_at_call 57; refine HO.out.mono ?_; rintro e w1 ⟨rfl, rfl⟩)
          | fail)
        go_ret
        exact HH.out.same 30 (Below.refl _ _)
      · have g3 : 7 ≤ n := by omega
        have g2' : 0 ≤ n := by omega
        go_enter Try.func31, Try.ntmps31
        go_wp2_with (first
          | (go_at_call 57; refine HO.out.mono ?_; rintro e w1 ⟨rfl, rfl⟩)
          | fail)
        go_ret
        exact HH.out.same 30 (Below.refl _ _)
  rw [if_neg h1]
  have q1' : (x : Int) ≤ 4611686018427387904 := by omega
  obtain ⟨m, rfl⟩ : ∃ m : Nat, n = (m : Int) := ⟨n.toNat, by omega⟩
  have hm : (m : Int) < 7 := by omega
  have q2' : 0 ≤ (m : Int) := by omega
  have q4' : ¬ (7 : Int) ≤ (m : Int) := by omega
  rw [Int.toNat_natCast]
  clear h1 hn hnw
  by_cases h2 : x < p.term
  · rw [if_pos h2]
    have q3' : (x : Int) < (p.term : Int) := by omega
    go_enter Try.func31, Try.ntmps31
    go_wp2_with (first
      | (go_at_call 57; refine HO.out.mono ?_; rintro e w1 ⟨rfl, rfl⟩)
      | fail)
    go_ret
    exact HH.out.same 52 (Below.refl _ _)
  rw [if_neg h2]
  have q3 : decide ((x : Int) < (p.term : Int)) = false := by simp; omega
  have q3n : decide (x < p.term) = false := by simpa using h2
  have q3m : ¬ x < p.term := h2
  have q3k : p.term ≤ x := by omega
  obtain ⟨W0, hW0⟩ : ∃ W0, W0 = W.alloc (.cells #[.int .u64 (x : Int), .int .u64 ((m : Int) + 1)] 85) := ⟨_, rfl⟩
  have hb0 : Below W.heap.size W W0 := by rw [hW0]; exact (Below.refl _ _).alloc (Nat.le_refl _) _
  have r0 : W0.heap[W.heap.size]? = some (.cells #[.int .u64 (x : Int), .int .u64 ((m : Int) + 1)] 85 (0, 0)) := by rw [hW0]; exact row_here _ _ rfl
  have hh0 := h.below hb0
  have HS : Hid (∀ w1 : World, Below W0.heap.size W0 w1 → Calls Try.prog 58 #[.pointer (some ⟨V, 0, none⟩), .agg #[.int .u64 (x : Int), .int .u64 ((m : Int) + 1)]] w1 (Vpost X w w1 B g T V M (vsave d t p ⟨x, m + 1⟩))) := Lib.hid (fun (w1 : World) (hb : Below W0.heap.size W0 w1) => vsave_any (hh0.below hb) hf hM ⟨x, m + 1⟩ (by show m + 1 ≤ 1000; omega))
  have HW0 := Lib.hid hW0
  have HB0 := Lib.hid hb0
  have k0 := cell_of_row W0 _ 0 _ _ _ r0
  have k1 := cell_of_row W0 _ 1 _ _ _ r0
  simp at k0 k1
  have c0' := kept hb0 c0 hlt
  have c1' := kept hb0 c1 hlt
  have HZ := Lib.hid hlt
  clear h2 hf hM h hW0 hb0 r0 hh0 hlt
  go_enter Try.func31, Try.ntmps31
  go_upto_region 8 with (first
    | (go_at_call 57; refine HO.out.mono ?_; rintro e w1 ⟨rfl, rfl⟩)
    | fail)
  rw [← HW0.out]
  by_cases h4 : x = p.term ∧ m + 1 = p.vote
  · rw [if_pos h4]
    go_quiet (fail)
    go_wp2_with (fail)
    go_ret
    exact HH.out.same 0 (HB0.out.trans ((bel_drewN W0 nq).mono HB0.out.size))
  rw [if_neg h4]
  by_cases h5 : x = p.term ∧ p.vote ≠ 0
  · rw [if_pos h5]
    obtain ⟨rfl, h5⟩ := h5
    have q5 : (p.vote == 0) = false := by simpa using h5
    have q6 : ((p.vote : Int) == 0) = false := by simp; omega
    go_quiet (fail)
    have e0 : (W0.drewN nq).cell? ⟨V, 0, none⟩ = some (.int .u64 (p.term : Int)) := c0'
    have e1 : (W0.drewN nq).cell? ⟨V, 1, none⟩ = some (.int .u64 (p.vote : Int)) := c1'
    go_wp2_with (fail)
    go_ret
    exact HH.out.same 41 (HB0.out.trans ((bel_drewN W0 nq).mono HB0.out.size))
  · rw [if_neg h5]
    have q5 : x = p.term → p.vote = 0 := fun e => by
      rcases Nat.eq_zero_or_pos p.vote with h | h
      · exact h
      · exact absurd ⟨e, by omega⟩ h5
    by_cases h6 : x = p.term
    · have h7 := q5 h6
      clear q5 h5 h4 q3 q3n q3m q3k c0 c1
      obtain ⟨pt, pv⟩ := p
      dsimp only at h6 h7 c0' c1' hpv
      subst h6
      subst h7
      go_quiet (fail)
      have e0 : (W0.drewN nq).cell? ⟨V, 0, none⟩ = some (.int .u64 (x : Int)) := c0'
      have e1 : (W0.drewN nq).cell? ⟨V, 1, none⟩ = some (.int .u64 (((0 : Nat) : Int))) := c1'
      have e2 : (W0.drewN nq).cell? ⟨W.heap.size, 0, none⟩ = some (.int .u64 (x : Int)) := k0
      have e3 : (W0.drewN nq).cell? ⟨W.heap.size, 1, none⟩ = some (.int .u64 ((m : Int) + 1)) := k1
      have HD := Lib.hid (bel_drewN W0 nq)
      go_wp2_with (first
        | (go_at_call 58; refine (HS.out _ HD.out).mono ?_; rintro e w1 ⟨rfl, hV1, hk1⟩)
        | fail)
      go_ret
      exact ⟨rfl, hV1, (Keeps.of_below (HB0.out.trans (HD.out.mono HB0.out.size))).trans hk1 (fun i h => .inl h)⟩
    · clear q5 h5 h4 c0 c1
      have q7 : (x == p.term) = false := by simpa using h6
      have q8 : ((x : Int) == (p.term : Int)) = false := by simp; omega
      go_quiet (fail)
      have e0 : (W0.drewN nq).cell? ⟨V, 0, none⟩ = some (.int .u64 (p.term : Int)) := c0'
      have e1 : (W0.drewN nq).cell? ⟨V, 1, none⟩ = some (.int .u64 ((p.vote : Int))) := c1'
      have e2 : (W0.drewN nq).cell? ⟨W.heap.size, 0, none⟩ = some (.int .u64 (x : Int)) := k0
      have e3 : (W0.drewN nq).cell? ⟨W.heap.size, 1, none⟩ = some (.int .u64 ((m : Int) + 1)) := k1
      have HD := Lib.hid (bel_drewN W0 nq)
      go_wp2_with (first
        | (go_at_call 58; refine (HS.out _ HD.out).mono ?_; rintro e w1 ⟨rfl, hV1, hk1⟩)
        | fail)
      go_ret
      exact ⟨rfl, hV1, (Keeps.of_below (HB0.out.trans (HD.out.mono HB0.out.size))).trans hk1 (fun i h => .inl h)⟩
end
end Go.Proofs.Yteakdmabdfpiiaa

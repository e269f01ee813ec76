/- Contracts of rising, of one span and of two, and of Join. -/
import Derived.Test.YtijkagfppeeegaaSort
namespace Go.Proofs.Ytijkagfppeeegaa
open Go.RowKit

theorem owns_some {w : World} {base sz n : Nat} {e : TypeId} {v : Value} {xs : List Value} (h : w.ownsRow base e sz v n xs) (hn : 0 < n) : ∃ g cap, v = .slice (some ⟨g, 0, none⟩) n cap ∧ base ≤ g ∧ g < w.heap.size ∧ n ≤ cap ∧ cap ≤ maxLen := by
  rcases h.2 with ⟨_, h0⟩ | ⟨g, cap, cur, hv, hb, hg, hnc, hcm, _, _⟩
  · omega
  · exact ⟨g, cap, hv, hb, (Array.getElem?_eq_some_iff.1 hg).1, hnc, hcm⟩

/-- What rising makes of some spans. -/
def Rises (A : Option Addr) (n c : Nat) (R : List (Nat × Nat)) (w : World) : Prop :=
  Calls Try.prog 23 #[.slice A n c] w fun e w' => ∃ g cap, e = .returned (.slice (some ⟨g, 0, none⟩) n cap) ∧ w'.ownsRow w.heap.size 24 2 (.slice (some ⟨g, 0, none⟩) n cap) n (sps R) ∧ Below w.heap.size w w'

theorem cell_old {w : World} {b j : Nat} {u : Value} (o : Obj) (h : w.cell? ⟨b, j, none⟩ = some u) : (w.alloc o).cell? ⟨b, j, none⟩ = some u := Lib.cell?_alloc_some o h

theorem grown_row {w w' : World} {row : Option Nat} {b : Nat} {o : Obj} (h : w.grownBy w' row) (hr : w.heap[b]? = some o) (hne : some b ≠ row) : w'.heap[b]? = some o := (h.block b (Array.getElem?_eq_some_iff.1 hr).1 hne).trans hr

theorem rising1 (b0 c a b : Nat) (w : World) (h : Rd w w.heap.size 2 (some ⟨b0, 0, none⟩) 1 c (sps [(a, b)])) : Rises (some ⟨b0, 0, none⟩) 1 c [(a, b)] w := by
  have hc := clone_any b0 1 c [(a, b)] w rfl (by omega) h
  unfold Rises
  go_enter Try.func23, Try.ntmps23
  go_wp2_with fail
  refine hc.mono ?_
  rintro e w1 ⟨v, rfl, hown, hb⟩
  obtain ⟨g, cap, rfl, hgb, hg, _⟩ := owns_some hown (by omega)
  have HO := Lib.hid hown
  clear hown hc h
  go_wp2_with fail
  refine (sort_any _ 1 cap (fun x => w1 = x) _ (.inl rfl) (ins1 g cap w1)).mono ?_
  rintro e w2 ⟨rfl, rfl⟩
  go_wp2
  go_ret
  exact ⟨g, cap, rfl, HO.out, hb⟩

theorem rising2 (b0 c a b d e' : Nat) (w : World) (h : Rd w w.heap.size 2 (some ⟨b0, 0, none⟩) 2 c (sps [(a, b), (d, e')])) : Rises (some ⟨b0, 0, none⟩) 2 c (srt a b d e') w := by
  have hc := clone_any b0 2 c [(a, b), (d, e')] w rfl (by omega) h
  unfold Rises
  go_enter Try.func23, Try.ntmps23
  go_wp2_with fail
  refine hc.mono ?_
  rintro e w1 ⟨v, rfl, hown, hb⟩
  obtain ⟨g, cap, rfl, hgb, hg, _⟩ := owns_some hown (by omega)
  have HI := Lib.hid (ins2 w.heap.size g cap a b d e' w1 hown)
  clear hown hc h
  go_wp2_with fail
  refine (sort_any _ 2 cap _ _ (.inr rfl) HI.out).mono ?_
  rintro e w2 ⟨rfl, ho, hgr⟩
  have HO := Lib.hid ho
  clear ho
  go_wp2
  go_ret
  exact ⟨g, cap, rfl, HO.out, hb.grown hgr hb.size (fun k hk => by cases hk; exact hgb)⟩

/-- One step of Join, and all of it. -/
def jstep (s : List (Nat × Nat) × Nat × Nat) (p : Nat × Nat) : List (Nat × Nat) × Nat × Nat := if s.2.2 < p.1 then (tol s.1 s.2.1 s.2.2, p.1, p.1 + p.2) else (s.1, s.2.1, max s.2.2 (p.1 + p.2))
def jst (R : List (Nat × Nat)) : List (Nat × Nat) × Nat × Nat := R.foldl jstep ([], 0, 0)
def jn (R : List (Nat × Nat)) : List (Nat × Nat) := tol (jst R).1 (jst R).2.1 (jst R).2.2
theorem jst_snoc (R : List (Nat × Nat)) (p : Nat × Nat) : jst (R ++ [p]) = jstep (jst R) p := by simp [jst]
theorem tol_len (L : List (Nat × Nat)) (x y : Nat) : (tol L x y).length ≤ L.length + 1 := by unfold tol; split <;> simp
def Fits (R : List (Nat × Nat)) : Prop := ∀ p ∈ R, p.1 < 4294967296 ∧ p.2 < 4294967296
theorem jstep_bd (s : List (Nat × Nat) × Nat × Nat) (p : Nat × Nat) (hp : p.1 < 4294967296 ∧ p.2 < 4294967296) (h : s.2.1 < 4294967296 ∧ s.2.2 < 8589934592) : (jstep s p).2.1 < 4294967296 ∧ (jstep s p).2.2 < 8589934592 ∧ (jstep s p).1.length ≤ s.1.length + 1 := by
  unfold jstep
  split
  · exact ⟨hp.1, by simp only; omega, tol_len _ _ _⟩
  · refine ⟨h.1, by simp only; omega, Nat.le_succ _⟩
theorem sps_get (ps : List (Nat × Nat)) (i : Nat) (p : Nat × Nat) (h : ps[i]? = some p) : (sps ps)[i * 2]? = some (.int .u32 (p.1 : Int)) ∧ (sps ps)[i * 2 + 1]? = some (.int .u32 (p.2 : Int)) := by
  induction ps generalizing i with
  | nil => cases h
  | cons q ps ih =>
    cases i with
    | zero =>
      simp only [List.getElem?_cons_zero, Option.some.injEq] at h
      subst h
      exact ⟨rfl, rfl⟩
    | succ i =>
      have := ih i (by simpa using h)
      have e : sps (q :: ps) = .int .u32 (q.1 : Int) :: .int .u32 (q.2 : Int) :: sps ps := rfl
      rw [e, show (i + 1) * 2 = i * 2 + 1 + 1 from by omega]
      exact this

end Go.Proofs.Ytijkagfppeeegaa

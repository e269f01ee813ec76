/- Contracts of told, Clone, and of the comparison by which spans are sorted. -/
import Derived.Test.YtijkagfppeeegaaSref
import Derived.Lib.LazyBuf
namespace Go.Proofs.Ytijkagfppeeegaa
open Go.RowKit

/-- The cells of spans. -/
def sps (l : List (Nat × Nat)) : List Value := l.flatMap fun p => [.int .u32 (p.1 : Int), .int .u32 (p.2 : Int)]
theorem sps_len (l : List (Nat × Nat)) : (sps l).length = l.length * 2 := by
  induction l with
  | nil => rfl
  | cons p l ih => simp only [sps, List.flatMap_cons, List.length_append, List.length_cons, List.length_nil] at ih ⊢; omega
theorem sps_app (l k : List (Nat × Nat)) : sps (l ++ k) = sps l ++ sps k := by simp [sps]
theorem sps_one (l : List (Nat × Nat)) : ∀ u ∈ sps l, u.oneCell' = true := by
  intro u hu
  obtain ⟨p, _, hp⟩ := List.mem_flatMap.1 hu
  simp at hp
  rcases hp with rfl | rfl <;> rfl
theorem E_sp : Elem Try.prog 34 24 (.agg #[.int .u32 0, .int .u32 0]) 2 8 := Elem.mk_ Try.underlying34 (by kernel_rfl) rfl (by decide)

theorem grow_of {w w' : World} (h : Below w.heap.size w w') : w.grownBy w' none := ⟨h.os, h.tape, h.output, h.size, fun i hi _ => h.block i hi⟩
theorem Ext.quiet {w w' : World} {v : Value} (h : Below w.heap.size w w') : Ext w v w' v := by
  refine ⟨?_, .inl rfl⟩
  have := grow_of h
  exact ⟨this.os, this.tape, this.output, this.size, fun i hi _ => this.block i hi (by simp)⟩
theorem owns_below {w w' : World} {base sz n : Nat} {e : TypeId} {v : Value} {xs : List Value} (h : w.ownsRow base e sz v n xs) (hb : Below w.heap.size w w') : w'.ownsRow base e sz v n xs :=
  h.kept (grow_of hb) (by cases hv : v.ownBlock <;> simp)

theorem Src.lit' {P : Program} {w : World} {b sz n : Nat} {tx e e' : TypeId} (hb : b = w.heap.size) (hk : P.underlying tx = some (.slice e')) (cs : Array Value) (hn : cs.size = n * sz) (h1 : ∀ u ∈ cs.toList, u.oneCell' = true) :
    Src P sz tx (.slice (some ⟨b, 0, none⟩) n n) n cs.toList (w.alloc (.cells cs e)) := by
  subst hb
  exact Src.lit hk cs hn h1

/-- Some spans, and behind them a run, if it has a block. -/
def tol (L : List (Nat × Nat)) (x y : Nat) : List (Nat × Nat) := if upt x (min 4294967296 y) = (0, 0) then L else L ++ [upt x (min 4294967296 y)]

set_option maxHeartbeats 1000000 in
theorem told_any (base : Nat) (v : Value) (L : List (Nat × Nat)) (x y : Nat) (w : World) (hx : x ≤ 4294967296) (hL : L.length ≤ 1000) (hown : w.ownsRow base 24 2 v L.length (sps L)) (hbase : base ≤ w.heap.size) :
    Calls Try.prog 24 #[v, .agg #[.int .u64 (x : Int), .int .u64 (y : Int)]] w fun e w' => ∃ v', e = .returned v' ∧ w'.ownsRow base 24 2 v' (tol L x y).length (sps (tol L x y)) ∧ Ext w v w' v' := by
  have hup : ∀ (W : World) (b : Nat), b = W.heap.size → Calls Try.prog 17 #[.int .u64 (x : Int), .slice (some ⟨b, 0, none⟩) 1 1] (W.alloc (.cells #[.func (.func 19) #[.agg #[.int .u64 (x : Int), .int .u64 (y : Int)]] #[]] 44)) fun e w' => e = .returned (.agg #[.int .u32 ((upt x (lim [(false, x, y)])).1 : Int), .int .u32 ((upt x (lim [(false, x, y)])).2 : Int)]) ∧ Below W.heap.size W w' := by
    intro W b hb
    subst hb
    exact (upTo_any x (some ⟨W.heap.size, 0, none⟩) 1 1 [(false, x, y)] _ hx rfl (Rd.lit (n := 1) W _ _ rfl (by unfold maxLen; omega) (by simp))).mono fun e w' h => ⟨h.1, unal h.2⟩
  have hlim : lim [(false, x, y)] = min 4294967296 y := rfl
  rw [hlim] at hup
  unfold tol
  have hpc : upt x (min 4294967296 y) = (0, 0) ∨ 0 < (upt x (min 4294967296 y)).2 := by
    unfold upt; split <;> simp; omega
  generalize upt x (min 4294967296 y) = p at hup hpc ⊢
  clear hlim
  obtain ⟨A, c, rfl⟩ := ownsRow_form hown
  by_cases hp : p = (0, 0)
  · subst hp
    rw [if_pos rfl]
    go_enter Try.func24, Try.ntmps24
    go_wp2_with (go_at_call 17; (with_reducible refine (hup _ _ (by simp)).mono ?_); rintro e w1 ⟨rfl, hb1⟩)
    go_ret
    have hb := unal hb1
    have hb2 : Below w.heap.size w (w1.alloc (.cells #[.int .u32 0, .int .u32 0] 24)) := hb.alloc hb.size _
    exact ⟨_, rfl, owns_below hown hb2, Ext.quiet hb2⟩
  · rw [if_neg hp]
    obtain ⟨f, s⟩ := p
    have hs : 0 < s := by
      rcases hpc with h | h
      · exact absurd h hp
      · exact h
    have q1 : ((s : Int) == 0) = false := by simp; omega
    clear hpc hp
    go_enter Try.func24, Try.ntmps24
    go_wp2_with (first
      | (go_at_call 17; (with_reducible refine (hup _ _ (by simp)).mono ?_); rintro e w1 ⟨rfl, hb1⟩; have hb := unal hb1; have hown1 := owns_below hown hb)
      | (at_builtin; refine wpL_app (o := ⟨some 19, _, _, _, _, _⟩) (v := .slice A L.length c) (y := .slice (some ⟨w1.heap.size + 1, 0, none⟩) 1 1) rfl (.tmp 16) (.tmp 18) _ _ rfl E_sp rfl rfl ((hown1.alloc _).alloc _) (Src.lit' (by simp) (n := 1) (sz := 2) Try.underlying34 #[.int .u32 (f : Int), .int .u32 (s : Int)] rfl (by simp [Value.oneCell'])) (by unfold maxLen; omega) (by omega) (by have := hb.size; simp; omega) ?_; intro v3 w3 hown3 hg3 hat3)
      | fail)
    go_ret
    refine ⟨v3, rfl, ?_, ?_⟩
    · rw [sps_app]
      exact hown3
    · have hb2 : Below w.heap.size w ((w1.alloc (.cells #[.int .u32 (f : Int), .int .u32 (s : Int)] 24)).alloc (.cells #[.int .u32 (f : Int), .int .u32 (s : Int)] 24)) := (hb.alloc hb.size _).alloc (by have := hb.size; simp; omega) _
      exact (Ext.quiet hb2).trans (Ext.app hg3 hat3)

/-- slices.Clone of spans: a row of one's own. -/
theorem clone_any (b n c : Nat) (L : List (Nat × Nat)) (w : World) (hn : L.length = n) (hn0 : n ≤ 1000) (h : Rd w w.heap.size 2 (some ⟨b, 0, none⟩) n c (sps L)) :
    Calls Try.prog 25 #[.slice (some ⟨b, 0, none⟩) n c] w fun e w' => ∃ v', e = .returned v' ∧ w'.ownsRow w.heap.size 24 2 v' n (sps L) ∧ Below w.heap.size w w' := by
  subst hn
  have q := Lib.run_eql_slice_nil (P := Try.prog) w 34 _ (some ⟨b, 0, none⟩) L.length c 0 0 Try.underlying34
  go_enter Try.func25, Try.ntmps25
  go_wp2_with (first
      | (at_builtin; refine wpL_app (o := ⟨some 7, _, _, _, _, _⟩) (v := .slice (some ⟨w.heap.size, 0, none⟩) 0 0) (y := .slice (some ⟨b, 0, none⟩) L.length c) rfl (.tmp 5) (.tmp 6) _ _ rfl E_sp rfl rfl (World.ownsRow_lit (base := w.heap.size) w #[] 0 (Nat.le_refl _) (Nat.zero_le _) rfl)
           ((h.below ((Below.refl _ _).alloc (Nat.le_refl _) _)).src Try.underlying34 (sps_one _)) (by unfold maxLen; omega) (by omega) (by simp) ?_; intro v3 w3 hown3 hg3 hat3)
      | fail)
  go_ret
  refine ⟨v3, rfl, ?_, ?_⟩
  · simpa using hown3
  · exact ((Below.refl _ _).alloc (Nat.le_refl _) _).grown hg3 (by simp) (fun j e => by cases e; exact Nat.le_refl _)

/-- How two numbers compare. -/
def cmpN (x y : Nat) : Int := if x < y then -1 else if y < x then 1 else 0
theorem cmp_any (x y : Nat) (w : World) : Calls Try.prog 28 #[.int .u32 (x : Int), .int .u32 (y : Int)] w fun e w' => e = .returned (.int .i64 (cmpN x y)) ∧ w = w' := by
  have hnan : ∀ (z : Nat) (W : World), Calls Try.prog 31 #[.int .u32 (z : Int)] W fun e w' => e = .returned (.bool false) ∧ W = w' := by
    intro z W
    go_enter Try.func31, Try.ntmps31
    go_wp2
    go_ret
    exact ⟨by simp, rfl⟩
  unfold cmpN
  by_cases h1 : x < y
  · rw [if_pos h1]
    go_enter Try.func28, Try.ntmps28
    go_wp2_with (go_at_call 31; (with_reducible refine (hnan _ _).mono ?_); rintro e w' ⟨rfl, rfl⟩)
    go_ret
    exact ⟨rfl, rfl⟩
  · rw [if_neg h1]
    by_cases h2 : y < x
    · rw [if_pos h2]
      go_enter Try.func28, Try.ntmps28
      go_wp2_with (go_at_call 31; (with_reducible refine (hnan _ _).mono ?_); rintro e w' ⟨rfl, rfl⟩)
      go_ret
      exact ⟨rfl, rfl⟩
    · rw [if_neg h2]
      go_enter Try.func28, Try.ntmps28
      go_wp2_with (go_at_call 31; (with_reducible refine (hnan _ _).mono ?_); rintro e w' ⟨rfl, rfl⟩)
      go_ret
      exact ⟨rfl, rfl⟩

theorem by_any (a b c d : Nat) (w : World) : Calls Try.prog 27 #[.agg #[.int .u32 (a : Int), .int .u32 (b : Int)], .agg #[.int .u32 (c : Int), .int .u32 (d : Int)]] w fun e w' => e = .returned (.int .i64 (cmpN a c)) ∧ Below w.heap.size w w' := by
  have hc := fun W => cmp_any a c W
  generalize cmpN a c = r at hc ⊢
  go_enter Try.func27, Try.ntmps27
  go_wp2_with (go_at_call 28; (with_reducible refine (hc _).mono ?_); rintro e w' ⟨rfl, rfl⟩)
  go_ret
  exact ⟨rfl, ((Below.refl _ _).alloc (Nat.le_refl _) _).alloc (by simp) _⟩

end Go.Proofs.Ytijkagfppeeegaa

/- The contract of the reference's Without. -/
import Derived.Test.YtijkagfppeeegaaWithout
namespace Go.Proofs.Ytijkagfppeeegaa
open Go.RowKit

theorem E_rs : Elem Try.prog 36 25 (.agg #[.int .u32 0, .int .u32 0]) 2 8 := Elem.mk_ Try.underlying36 (by kernel_rfl) rfl (by decide)

/-- The list of two spans, but for those that have no block. -/
def two (p q : Nat × Nat) : List (Nat × Nat) := (if p.2 = 0 then [] else [p]) ++ (if q.2 = 0 then [] else [q])

theorem sps1 (a b : Nat) : sps [(a, b)] = [.int .u32 (a : Int), .int .u32 (b : Int)] := rfl
theorem sps2 (a b c d : Nat) : sps [(a, b), (c, d)] = [.int .u32 (a : Int), .int .u32 (b : Int), .int .u32 (c : Int), .int .u32 (d : Int)] := rfl
set_option maxHeartbeats 2000000 in
/-- The walk, with what the two calls of ends tell, and what the two of of do. -/
theorem rwithout_walk (a b c d x y z u x' y' : Nat) (p q : Nat × Nat) (w : World)
    (h1 : ∀ W, Calls Try.prog 16 #[.agg #[.int .u32 (a : Int), .int .u32 (b : Int)]] W fun e w' => e = .returned (.tuple #[.int .u64 (x : Int), .int .u64 (y : Int)]) ∧ Below W.heap.size W w')
    (h2 : ∀ W, Calls Try.prog 16 #[.agg #[.int .u32 (c : Int), .int .u32 (d : Int)]] W fun e w' => e = .returned (.tuple #[.int .u64 (z : Int), .int .u64 (u : Int)]) ∧ Below W.heap.size W w')
    (hm1 : Hid (min y (if u ≤ z then y else z) = x')) (hm2 : Hid (max x (if u ≤ z then y else u) = y'))
    (h3 : ∀ W, Calls Try.prog 20 #[.int .u64 (x : Int), .int .u64 (x' : Int)] W fun e w' => e = .returned (.agg #[.int .u32 (p.1 : Int), .int .u32 (p.2 : Int)]) ∧ Below W.heap.size W w')
    (h4 : ∀ W, Calls Try.prog 20 #[.int .u64 (y' : Int), .int .u64 (y : Int)] W fun e w' => e = .returned (.agg #[.int .u32 (q.1 : Int), .int .u32 (q.2 : Int)]) ∧ Below W.heap.size W w')
    (hpq : 0 < p.2 → 0 < q.2 → q.1 ≠ p.1) :
    Calls Try.prog 14 #[.agg #[.int .u32 (a : Int), .int .u32 (b : Int)], .agg #[.int .u32 (c : Int), .int .u32 (d : Int)]] w fun e w' => ∃ v', e = .returned v' ∧ w'.ownsRow w.heap.size 25 2 v' (two p q).length (sps (two p q)) ∧ Below w.heap.size w w' := by
  obtain ⟨p1, p2⟩ := p
  obtain ⟨q1, q2⟩ := q
  simp only at h3 h4 hpq
  obtain ⟨P2, hP2⟩ : ∃ P2 : Int, P2 = (p2 : Int) := ⟨_, rfl⟩
  obtain ⟨Q2, hQ2⟩ : ∃ Q2 : Int, Q2 = (q2 : Int) := ⟨_, rfl⟩
  rw [← hP2] at h3
  rw [← hQ2] at h4
  obtain ⟨W, hW, hWs, r0, r1, hwW⟩ := boxes2 w #[.int .u32 (a : Int), .int .u32 (b : Int)] #[.int .u32 (c : Int), .int .u32 (d : Int)] 25 25
  by_cases hp : p2 = 0
  · by_cases hq : q2 = 0
    · have d0 : decide (0 < P2) = false := by simp; omega
      have d1 : decide (0 < Q2) = false := by simp; omega
      have HT := Lib.hid (show two (p1, p2) (q1, q2) = [] by unfold two; simp [hp, hq])
      have HP1 := Lib.hid hP2
      have HP2 := Lib.hid hQ2
      clear hP2 hQ2 hp hq hpq
      by_cases huz : u ≤ z
      · have e1 : x' = y := by rw [← hm1.out, if_pos huz]; exact Nat.min_self y
        subst e1
        have e2 : (if x < x' then (x' : Int) else (x : Int)) = (y' : Int) := by rw [← hm2.out, if_pos huz]; split <;> omega
        clear hm1 hm2
        go_enter Try.func14, Try.ntmps14
        go_wp2_with fail
        refine (h1 _).mono ?_
        rintro e w1 ⟨rfl, hb1⟩
        rw [← hW] at hb1
        have c0 := cellz (j := 0) (u := .int .u32 (c : Int)) hb1 r1 rfl
        have c1 := cellz (j := 1) (u := .int .u32 (d : Int)) hb1 r1 rfl
        go_wp2_with fail
        refine (h2 _).mono ?_
        rintro e w2 ⟨rfl, hb2⟩
        have hz2 := hb1.trans (hb2.mono hb1.size)
        clear c0 c1 h1 h2 hW
        go_wp2_with fail
        refine (h3 _).mono ?_
        rintro e w3 ⟨rfl, hb3⟩
        have hz3 := hz2.trans (hb3.mono hz2.size)
        go_wp2_with fail
        refine (h4 _).mono ?_
        rintro e w4 ⟨rfl, hb4⟩
        have hz4 := hz3.trans ((unal hb4).mono hz3.size)
        have rp := (hb4.block w3.heap.size (by simp)).trans (heap_alloc_new w3 _)
        have hs4 : w3.heap.size < w4.heap.size := (Array.getElem?_eq_some_iff.1 rp).1
        have kp0 : ∀ o, (w4.alloc o).cell? ⟨w3.heap.size, 0, none⟩ = some (.int .u32 (p1 : Int)) := fun o => cell_of_row _ _ 0 _ _ _ (row_old o rp)
        have kp1 : ∀ o, (w4.alloc o).cell? ⟨w3.heap.size, 1, none⟩ = some (.int .u32 P2) := fun o => cell_of_row _ _ 1 _ _ _ (row_old o rp)
        have zX := hz4.trans (show Below W.heap.size w4 (w4.alloc (.cells #[.int .u32 (q1 : Int), .int .u32 Q2] 25)) from ((Below.refl _ _).alloc (Nat.le_refl _) _).mono hz4.size)
        have hwX := Lib.hid (hwW.trans (zX.mono hwW.size))
        have hwX' : w.heap.size ≤ w4.heap.size := by have := hwW.size; have := hz4.size; omega
        clear hb1 hb2 hb3 hb4 hz2 hz3 hz4 h3 h4 e2 r0 r1 hwW zX
        go_wp2
        go_ret
        exact ⟨_, rfl, (by rw [HT.out]; exact World.ownsRow_nil _ _ _ _), hwX.out⟩
      · have e1 : (if z < y then (z : Int) else (y : Int)) = (x' : Int) := by rw [← hm1.out, if_neg huz]; split <;> omega
        have e2 : (if x < u then (u : Int) else (x : Int)) = (y' : Int) := by rw [← hm2.out, if_neg huz]; split <;> omega
        clear hm1 hm2
        go_enter Try.func14, Try.ntmps14
        go_wp2_with fail
        refine (h1 _).mono ?_
        rintro e w1 ⟨rfl, hb1⟩
        rw [← hW] at hb1
        have c0 := cellz (j := 0) (u := .int .u32 (c : Int)) hb1 r1 rfl
        have c1 := cellz (j := 1) (u := .int .u32 (d : Int)) hb1 r1 rfl
        go_wp2_with fail
        refine (h2 _).mono ?_
        rintro e w2 ⟨rfl, hb2⟩
        have hz2 := hb1.trans (hb2.mono hb1.size)
        clear c0 c1 h1 h2 hW
        go_wp2_with fail
        refine (h3 _).mono ?_
        rintro e w3 ⟨rfl, hb3⟩
        have hz3 := hz2.trans (hb3.mono hz2.size)
        go_wp2_with fail
        refine (h4 _).mono ?_
        rintro e w4 ⟨rfl, hb4⟩
        have hz4 := hz3.trans ((unal hb4).mono hz3.size)
        have rp := (hb4.block w3.heap.size (by simp)).trans (heap_alloc_new w3 _)
        have hs4 : w3.heap.size < w4.heap.size := (Array.getElem?_eq_some_iff.1 rp).1
        have kp0 : ∀ o, (w4.alloc o).cell? ⟨w3.heap.size, 0, none⟩ = some (.int .u32 (p1 : Int)) := fun o => cell_of_row _ _ 0 _ _ _ (row_old o rp)
        have kp1 : ∀ o, (w4.alloc o).cell? ⟨w3.heap.size, 1, none⟩ = some (.int .u32 P2) := fun o => cell_of_row _ _ 1 _ _ _ (row_old o rp)
        have zX := hz4.trans (show Below W.heap.size w4 (w4.alloc (.cells #[.int .u32 (q1 : Int), .int .u32 Q2] 25)) from ((Below.refl _ _).alloc (Nat.le_refl _) _).mono hz4.size)
        have hwX := Lib.hid (hwW.trans (zX.mono hwW.size))
        have hwX' : w.heap.size ≤ w4.heap.size := by have := hwW.size; have := hz4.size; omega
        clear hb1 hb2 hb3 hb4 hz2 hz3 hz4 h3 h4 e2 r0 r1 hwW zX
        go_wp2
        go_ret
        exact ⟨_, rfl, (by rw [HT.out]; exact World.ownsRow_nil _ _ _ _), hwX.out⟩
    · have d0 : decide (0 < P2) = false := by simp; omega
      have d1 : decide (0 < Q2) = true := by simp; omega
      have d2 : (Q2 == P2) = false := by simp; omega
      have HT := Lib.hid (show two (p1, p2) (q1, q2) = [(q1, q2)] by unfold two; simp [hp, hq])
      have HP1 := Lib.hid hP2
      have HP2 := Lib.hid hQ2
      clear hP2 hQ2 hp hq hpq
      by_cases huz : u ≤ z
      · have e1 : x' = y := by rw [← hm1.out, if_pos huz]; exact Nat.min_self y
        subst e1
        have e2 : (if x < x' then (x' : Int) else (x : Int)) = (y' : Int) := by rw [← hm2.out, if_pos huz]; split <;> omega
        clear hm1 hm2
        go_enter Try.func14, Try.ntmps14
        go_wp2_with fail
        refine (h1 _).mono ?_
        rintro e w1 ⟨rfl, hb1⟩
        rw [← hW] at hb1
        have c0 := cellz (j := 0) (u := .int .u32 (c : Int)) hb1 r1 rfl
        have c1 := cellz (j := 1) (u := .int .u32 (d : Int)) hb1 r1 rfl
        go_wp2_with fail
        refine (h2 _).mono ?_
        rintro e w2 ⟨rfl, hb2⟩
        have hz2 := hb1.trans (hb2.mono hb1.size)
        clear c0 c1 h1 h2 hW
        go_wp2_with fail
        refine (h3 _).mono ?_
        rintro e w3 ⟨rfl, hb3⟩
        have hz3 := hz2.trans (hb3.mono hz2.size)
        go_wp2_with fail
        refine (h4 _).mono ?_
        rintro e w4 ⟨rfl, hb4⟩
        have hz4 := hz3.trans ((unal hb4).mono hz3.size)
        have rp := (hb4.block w3.heap.size (by simp)).trans (heap_alloc_new w3 _)
        have hs4 : w3.heap.size < w4.heap.size := (Array.getElem?_eq_some_iff.1 rp).1
        have kp0 : ∀ o, (w4.alloc o).cell? ⟨w3.heap.size, 0, none⟩ = some (.int .u32 (p1 : Int)) := fun o => cell_of_row _ _ 0 _ _ _ (row_old o rp)
        have kp1 : ∀ o, (w4.alloc o).cell? ⟨w3.heap.size, 1, none⟩ = some (.int .u32 P2) := fun o => cell_of_row _ _ 1 _ _ _ (row_old o rp)
        have zX := hz4.trans (show Below W.heap.size w4 (w4.alloc (.cells #[.int .u32 (q1 : Int), .int .u32 Q2] 25)) from ((Below.refl _ _).alloc (Nat.le_refl _) _).mono hz4.size)
        have hwX := Lib.hid (hwW.trans (zX.mono hwW.size))
        have hwX' : w.heap.size ≤ w4.heap.size := by have := hwW.size; have := hz4.size; omega
        clear hb1 hb2 hb3 hb4 hz2 hz3 hz4 h3 h4 e2 r0 r1 hwW zX
        go_wp2_with (first
          | (at_builtin; refine wpL_app (o := ⟨some 55, _, _, _, _, _⟩) (base := w.heap.size) (v := .slice none 0 0) (y := .slice (some ⟨w4.heap.size + 1, 0, none⟩) 1 1) rfl (.tmp 52) (.tmp 54) _ _ rfl E_rs rfl rfl (World.ownsRow_nil _ _ _ _) (Src.lit' (by simp) (n := 1) (sz := 2) Try.underlying36 #[.int .u32 (q1 : Int), .int .u32 Q2] rfl (by simp [Value.oneCell'])) (by unfold maxLen; omega) (by omega) (by simp; omega) ?_; intro v6 w6 hown6 hg6 hat6)
          | fail)
        go_ret
        refine ⟨v6, rfl, by rw [HT.out, sps1, ← HP2.out]; exact hown6, ?_⟩
        exact hwX.out.trans ((((Below.refl _ _).alloc (Nat.le_refl _) _).grown hg6 (by simp) (fun j e => by cases e)).mono (by simp; omega))
      · have e1 : (if z < y then (z : Int) else (y : Int)) = (x' : Int) := by rw [← hm1.out, if_neg huz]; split <;> omega
        have e2 : (if x < u then (u : Int) else (x : Int)) = (y' : Int) := by rw [← hm2.out, if_neg huz]; split <;> omega
        clear hm1 hm2
        go_enter Try.func14, Try.ntmps14
        go_wp2_with fail
        refine (h1 _).mono ?_
        rintro e w1 ⟨rfl, hb1⟩
        rw [← hW] at hb1
        have c0 := cellz (j := 0) (u := .int .u32 (c : Int)) hb1 r1 rfl
        have c1 := cellz (j := 1) (u := .int .u32 (d : Int)) hb1 r1 rfl
        go_wp2_with fail
        refine (h2 _).mono ?_
        rintro e w2 ⟨rfl, hb2⟩
        have hz2 := hb1.trans (hb2.mono hb1.size)
        clear c0 c1 h1 h2 hW
        go_wp2_with fail
        refine (h3 _).mono ?_
        rintro e w3 ⟨rfl, hb3⟩
        have hz3 := hz2.trans (hb3.mono hz2.size)
        go_wp2_with fail
        refine (h4 _).mono ?_
        rintro e w4 ⟨rfl, hb4⟩
        have hz4 := hz3.trans ((unal hb4).mono hz3.size)
        have rp := (hb4.block w3.heap.size (by simp)).trans (heap_alloc_new w3 _)
        have hs4 : w3.heap.size < w4.heap.size := (Array.getElem?_eq_some_iff.1 rp).1
        have kp0 : ∀ o, (w4.alloc o).cell? ⟨w3.heap.size, 0, none⟩ = some (.int .u32 (p1 : Int)) := fun o => cell_of_row _ _ 0 _ _ _ (row_old o rp)
        have kp1 : ∀ o, (w4.alloc o).cell? ⟨w3.heap.size, 1, none⟩ = some (.int .u32 P2) := fun o => cell_of_row _ _ 1 _ _ _ (row_old o rp)
        have zX := hz4.trans (show Below W.heap.size w4 (w4.alloc (.cells #[.int .u32 (q1 : Int), .int .u32 Q2] 25)) from ((Below.refl _ _).alloc (Nat.le_refl _) _).mono hz4.size)
        have hwX := Lib.hid (hwW.trans (zX.mono hwW.size))
        have hwX' : w.heap.size ≤ w4.heap.size := by have := hwW.size; have := hz4.size; omega
        clear hb1 hb2 hb3 hb4 hz2 hz3 hz4 h3 h4 e2 r0 r1 hwW zX
        go_wp2_with (first
          | (at_builtin; refine wpL_app (o := ⟨some 55, _, _, _, _, _⟩) (base := w.heap.size) (v := .slice none 0 0) (y := .slice (some ⟨w4.heap.size + 1, 0, none⟩) 1 1) rfl (.tmp 52) (.tmp 54) _ _ rfl E_rs rfl rfl (World.ownsRow_nil _ _ _ _) (Src.lit' (by simp) (n := 1) (sz := 2) Try.underlying36 #[.int .u32 (q1 : Int), .int .u32 Q2] rfl (by simp [Value.oneCell'])) (by unfold maxLen; omega) (by omega) (by simp; omega) ?_; intro v6 w6 hown6 hg6 hat6)
          | fail)
        go_ret
        refine ⟨v6, rfl, by rw [HT.out, sps1, ← HP2.out]; exact hown6, ?_⟩
        exact hwX.out.trans ((((Below.refl _ _).alloc (Nat.le_refl _) _).grown hg6 (by simp) (fun j e => by cases e)).mono (by simp; omega))
  · by_cases hq : q2 = 0
    · have d0 : decide (0 < P2) = true := by simp; omega
      have d1 : decide (0 < Q2) = false := by simp; omega
      have HT := Lib.hid (show two (p1, p2) (q1, q2) = [(p1, p2)] by unfold two; simp [hp, hq])
      have HP1 := Lib.hid hP2
      have HP2 := Lib.hid hQ2
      clear hP2 hQ2 hp hq hpq
      by_cases huz : u ≤ z
      · have e1 : x' = y := by rw [← hm1.out, if_pos huz]; exact Nat.min_self y
        subst e1
        have e2 : (if x < x' then (x' : Int) else (x : Int)) = (y' : Int) := by rw [← hm2.out, if_pos huz]; split <;> omega
        clear hm1 hm2
        go_enter Try.func14, Try.ntmps14
        go_wp2_with fail
        refine (h1 _).mono ?_
        rintro e w1 ⟨rfl, hb1⟩
        rw [← hW] at hb1
        have c0 := cellz (j := 0) (u := .int .u32 (c : Int)) hb1 r1 rfl
        have c1 := cellz (j := 1) (u := .int .u32 (d : Int)) hb1 r1 rfl
        go_wp2_with fail
        refine (h2 _).mono ?_
        rintro e w2 ⟨rfl, hb2⟩
        have hz2 := hb1.trans (hb2.mono hb1.size)
        clear c0 c1 h1 h2 hW
        go_wp2_with fail
        refine (h3 _).mono ?_
        rintro e w3 ⟨rfl, hb3⟩
        have hz3 := hz2.trans (hb3.mono hz2.size)
        go_wp2_with fail
        refine (h4 _).mono ?_
        rintro e w4 ⟨rfl, hb4⟩
        have hz4 := hz3.trans ((unal hb4).mono hz3.size)
        have rp := (hb4.block w3.heap.size (by simp)).trans (heap_alloc_new w3 _)
        have hs4 : w3.heap.size < w4.heap.size := (Array.getElem?_eq_some_iff.1 rp).1
        have kp0 : ∀ o, (w4.alloc o).cell? ⟨w3.heap.size, 0, none⟩ = some (.int .u32 (p1 : Int)) := fun o => cell_of_row _ _ 0 _ _ _ (row_old o rp)
        have kp1 : ∀ o, (w4.alloc o).cell? ⟨w3.heap.size, 1, none⟩ = some (.int .u32 P2) := fun o => cell_of_row _ _ 1 _ _ _ (row_old o rp)
        have zX := hz4.trans (show Below W.heap.size w4 (w4.alloc (.cells #[.int .u32 (q1 : Int), .int .u32 Q2] 25)) from ((Below.refl _ _).alloc (Nat.le_refl _) _).mono hz4.size)
        have hwX := Lib.hid (hwW.trans (zX.mono hwW.size))
        have hwX' : w.heap.size ≤ w4.heap.size := by have := hwW.size; have := hz4.size; omega
        clear hb1 hb2 hb3 hb4 hz2 hz3 hz4 h3 h4 e2 r0 r1 hwW zX
        go_wp2_with (first
          | (at_builtin; refine wpL_app (o := ⟨some 43, _, _, _, _, _⟩) (base := w.heap.size) (v := .slice none 0 0) (y := .slice (some ⟨w4.heap.size + 1, 0, none⟩) 1 1) rfl (.tmp 40) (.tmp 42) _ _ rfl E_rs rfl rfl (World.ownsRow_nil _ _ _ _) (Src.lit' (by simp) (n := 1) (sz := 2) Try.underlying36 #[.int .u32 (p1 : Int), .int .u32 P2] rfl (by simp [Value.oneCell'])) (by unfold maxLen; omega) (by omega) (by simp; omega) ?_; intro v5 w5 hown5 hg5 hat5
             have hg := ((Below.refl (w4.alloc (.cells #[.int .u32 (q1 : Int), .int .u32 Q2] 25)).heap.size (w4.alloc (.cells #[.int .u32 (q1 : Int), .int .u32 Q2] 25))).alloc (Nat.le_refl _) (.cells #[.int .u32 (p1 : Int), .int .u32 P2] 25)).grown hg5 (by simp) (fun j e => by cases e)
             have kq0' : w5.cell? ⟨w4.heap.size, 0, none⟩ = some (.int .u32 (q1 : Int)) := kept hg (cell_of_row _ _ 0 _ _ _ (heap_alloc_new w4 _))
             have kq1' : w5.cell? ⟨w4.heap.size, 1, none⟩ = some (.int .u32 Q2) := kept hg (cell_of_row _ _ 1 _ _ _ (heap_alloc_new w4 _))
             have kp0' : w5.cell? ⟨w3.heap.size, 0, none⟩ = some (.int .u32 (p1 : Int)) := kept hg (kp0 _)
             have kp1' : w5.cell? ⟨w3.heap.size, 1, none⟩ = some (.int .u32 P2) := kept hg (kp1 _)
             have HG := Lib.hid hg
             have HO5 := Lib.hid hown5
             clear hg hown5 kp0 kp1)
          | fail)
        go_ret
        exact ⟨v5, rfl, by rw [HT.out, sps1, ← HP1.out]; exact HO5.out, hwX.out.trans (HG.out.mono (by simp; omega))⟩
      · have e1 : (if z < y then (z : Int) else (y : Int)) = (x' : Int) := by rw [← hm1.out, if_neg huz]; split <;> omega
        have e2 : (if x < u then (u : Int) else (x : Int)) = (y' : Int) := by rw [← hm2.out, if_neg huz]; split <;> omega
        clear hm1 hm2
        go_enter Try.func14, Try.ntmps14
        go_wp2_with fail
        refine (h1 _).mono ?_
        rintro e w1 ⟨rfl, hb1⟩
        rw [← hW] at hb1
        have c0 := cellz (j := 0) (u := .int .u32 (c : Int)) hb1 r1 rfl
        have c1 := cellz (j := 1) (u := .int .u32 (d : Int)) hb1 r1 rfl
        go_wp2_with fail
        refine (h2 _).mono ?_
        rintro e w2 ⟨rfl, hb2⟩
        have hz2 := hb1.trans (hb2.mono hb1.size)
        clear c0 c1 h1 h2 hW
        go_wp2_with fail
        refine (h3 _).mono ?_
        rintro e w3 ⟨rfl, hb3⟩
        have hz3 := hz2.trans (hb3.mono hz2.size)
        go_wp2_with fail
        refine (h4 _).mono ?_
        rintro e w4 ⟨rfl, hb4⟩
        have hz4 := hz3.trans ((unal hb4).mono hz3.size)
        have rp := (hb4.block w3.heap.size (by simp)).trans (heap_alloc_new w3 _)
        have hs4 : w3.heap.size < w4.heap.size := (Array.getElem?_eq_some_iff.1 rp).1
        have kp0 : ∀ o, (w4.alloc o).cell? ⟨w3.heap.size, 0, none⟩ = some (.int .u32 (p1 : Int)) := fun o => cell_of_row _ _ 0 _ _ _ (row_old o rp)
        have kp1 : ∀ o, (w4.alloc o).cell? ⟨w3.heap.size, 1, none⟩ = some (.int .u32 P2) := fun o => cell_of_row _ _ 1 _ _ _ (row_old o rp)
        have zX := hz4.trans (show Below W.heap.size w4 (w4.alloc (.cells #[.int .u32 (q1 : Int), .int .u32 Q2] 25)) from ((Below.refl _ _).alloc (Nat.le_refl _) _).mono hz4.size)
        have hwX := Lib.hid (hwW.trans (zX.mono hwW.size))
        have hwX' : w.heap.size ≤ w4.heap.size := by have := hwW.size; have := hz4.size; omega
        clear hb1 hb2 hb3 hb4 hz2 hz3 hz4 h3 h4 e2 r0 r1 hwW zX
        go_wp2_with (first
          | (at_builtin; refine wpL_app (o := ⟨some 43, _, _, _, _, _⟩) (base := w.heap.size) (v := .slice none 0 0) (y := .slice (some ⟨w4.heap.size + 1, 0, none⟩) 1 1) rfl (.tmp 40) (.tmp 42) _ _ rfl E_rs rfl rfl (World.ownsRow_nil _ _ _ _) (Src.lit' (by simp) (n := 1) (sz := 2) Try.underlying36 #[.int .u32 (p1 : Int), .int .u32 P2] rfl (by simp [Value.oneCell'])) (by unfold maxLen; omega) (by omega) (by simp; omega) ?_; intro v5 w5 hown5 hg5 hat5
             have hg := ((Below.refl (w4.alloc (.cells #[.int .u32 (q1 : Int), .int .u32 Q2] 25)).heap.size (w4.alloc (.cells #[.int .u32 (q1 : Int), .int .u32 Q2] 25))).alloc (Nat.le_refl _) (.cells #[.int .u32 (p1 : Int), .int .u32 P2] 25)).grown hg5 (by simp) (fun j e => by cases e)
             have kq0' : w5.cell? ⟨w4.heap.size, 0, none⟩ = some (.int .u32 (q1 : Int)) := kept hg (cell_of_row _ _ 0 _ _ _ (heap_alloc_new w4 _))
             have kq1' : w5.cell? ⟨w4.heap.size, 1, none⟩ = some (.int .u32 Q2) := kept hg (cell_of_row _ _ 1 _ _ _ (heap_alloc_new w4 _))
             have kp0' : w5.cell? ⟨w3.heap.size, 0, none⟩ = some (.int .u32 (p1 : Int)) := kept hg (kp0 _)
             have kp1' : w5.cell? ⟨w3.heap.size, 1, none⟩ = some (.int .u32 P2) := kept hg (kp1 _)
             have HG := Lib.hid hg
             have HO5 := Lib.hid hown5
             clear hg hown5 kp0 kp1)
          | fail)
        go_ret
        exact ⟨v5, rfl, by rw [HT.out, sps1, ← HP1.out]; exact HO5.out, hwX.out.trans (HG.out.mono (by simp; omega))⟩
    · have d0 : decide (0 < P2) = true := by simp; omega
      have d1 : decide (0 < Q2) = true := by simp; omega
      have hne := hpq (by omega) (by omega)
      have d2 : ((q1 : Int) == (p1 : Int)) = false := by simp; omega
      have HT := Lib.hid (show two (p1, p2) (q1, q2) = [(p1, p2), (q1, q2)] by unfold two; simp [hp, hq])
      have HP1 := Lib.hid hP2
      have HP2 := Lib.hid hQ2
      clear hP2 hQ2 hp hq hpq hne
      by_cases huz : u ≤ z
      · have e1 : x' = y := by rw [← hm1.out, if_pos huz]; exact Nat.min_self y
        subst e1
        have e2 : (if x < x' then (x' : Int) else (x : Int)) = (y' : Int) := by rw [← hm2.out, if_pos huz]; split <;> omega
        clear hm1 hm2
        go_enter Try.func14, Try.ntmps14
        go_wp2_with fail
        refine (h1 _).mono ?_
        rintro e w1 ⟨rfl, hb1⟩
        rw [← hW] at hb1
        have c0 := cellz (j := 0) (u := .int .u32 (c : Int)) hb1 r1 rfl
        have c1 := cellz (j := 1) (u := .int .u32 (d : Int)) hb1 r1 rfl
        go_wp2_with fail
        refine (h2 _).mono ?_
        rintro e w2 ⟨rfl, hb2⟩
        have hz2 := hb1.trans (hb2.mono hb1.size)
        clear c0 c1 h1 h2 hW
        go_wp2_with fail
        refine (h3 _).mono ?_
        rintro e w3 ⟨rfl, hb3⟩
        have hz3 := hz2.trans (hb3.mono hz2.size)
        go_wp2_with fail
        refine (h4 _).mono ?_
        rintro e w4 ⟨rfl, hb4⟩
        have hz4 := hz3.trans ((unal hb4).mono hz3.size)
        have rp := (hb4.block w3.heap.size (by simp)).trans (heap_alloc_new w3 _)
        have hs4 : w3.heap.size < w4.heap.size := (Array.getElem?_eq_some_iff.1 rp).1
        have kp0 : ∀ o, (w4.alloc o).cell? ⟨w3.heap.size, 0, none⟩ = some (.int .u32 (p1 : Int)) := fun o => cell_of_row _ _ 0 _ _ _ (row_old o rp)
        have kp1 : ∀ o, (w4.alloc o).cell? ⟨w3.heap.size, 1, none⟩ = some (.int .u32 P2) := fun o => cell_of_row _ _ 1 _ _ _ (row_old o rp)
        have zX := hz4.trans (show Below W.heap.size w4 (w4.alloc (.cells #[.int .u32 (q1 : Int), .int .u32 Q2] 25)) from ((Below.refl _ _).alloc (Nat.le_refl _) _).mono hz4.size)
        have hwX := Lib.hid (hwW.trans (zX.mono hwW.size))
        have hwX' : w.heap.size ≤ w4.heap.size := by have := hwW.size; have := hz4.size; omega
        clear hb1 hb2 hb3 hb4 hz2 hz3 hz4 h3 h4 e2 r0 r1 hwW zX
        go_wp2_with (first
          | (at_builtin; refine wpL_app (o := ⟨some 43, _, _, _, _, _⟩) (base := w.heap.size) (v := .slice none 0 0) (y := .slice (some ⟨w4.heap.size + 1, 0, none⟩) 1 1) rfl (.tmp 40) (.tmp 42) _ _ rfl E_rs rfl rfl (World.ownsRow_nil _ _ _ _) (Src.lit' (by simp) (n := 1) (sz := 2) Try.underlying36 #[.int .u32 (p1 : Int), .int .u32 P2] rfl (by simp [Value.oneCell'])) (by unfold maxLen; omega) (by omega) (by simp; omega) ?_; intro v5 w5 hown5 hg5 hat5
             have hg := ((Below.refl (w4.alloc (.cells #[.int .u32 (q1 : Int), .int .u32 Q2] 25)).heap.size (w4.alloc (.cells #[.int .u32 (q1 : Int), .int .u32 Q2] 25))).alloc (Nat.le_refl _) (.cells #[.int .u32 (p1 : Int), .int .u32 P2] 25)).grown hg5 (by simp) (fun j e => by cases e)
             have kq0' : w5.cell? ⟨w4.heap.size, 0, none⟩ = some (.int .u32 (q1 : Int)) := kept hg (cell_of_row _ _ 0 _ _ _ (heap_alloc_new w4 _))
             have kq1' : w5.cell? ⟨w4.heap.size, 1, none⟩ = some (.int .u32 Q2) := kept hg (cell_of_row _ _ 1 _ _ _ (heap_alloc_new w4 _))
             have kp0' : w5.cell? ⟨w3.heap.size, 0, none⟩ = some (.int .u32 (p1 : Int)) := kept hg (kp0 _)
             have kp1' : w5.cell? ⟨w3.heap.size, 1, none⟩ = some (.int .u32 P2) := kept hg (kp1 _)
             have HG := Lib.hid hg
             have HO5 := Lib.hid hown5
             clear hg hown5 kp0 kp1)
          | (at_builtin; refine wpL_app (o := ⟨some 55, _, _, _, _, _⟩) (base := w.heap.size) (v := v5) (y := .slice (some ⟨w5.heap.size, 0, none⟩) 1 1) rfl (.tmp 52) (.tmp 54) _ _ rfl E_rs rfl rfl (HO5.out.alloc _) (Src.lit' (by simp) (n := 1) (sz := 2) Try.underlying36 #[.int .u32 (q1 : Int), .int .u32 Q2] rfl (by simp [Value.oneCell'])) (by unfold maxLen; omega) (by omega) (by have := HG.out.size; simp at this; simp; omega) ?_; intro v6 w6 hown6 hg6 hat6)
          | fail)
        go_ret
        have hw5 := hwX.out.trans (HG.out.mono (by simp; omega))
        refine ⟨v6, rfl, by rw [HT.out, sps2, ← HP1.out, ← HP2.out]; exact hown6, ?_⟩
        exact (hw5.alloc hw5.size _).grown hg6 (by have := hw5.size; simp; omega) (fun j e => (HO5.out.lt j e).1)
      · have e1 : (if z < y then (z : Int) else (y : Int)) = (x' : Int) := by rw [← hm1.out, if_neg huz]; split <;> omega
        have e2 : (if x < u then (u : Int) else (x : Int)) = (y' : Int) := by rw [← hm2.out, if_neg huz]; split <;> omega
        clear hm1 hm2
        go_enter Try.func14, Try.ntmps14
        go_wp2_with fail
        refine (h1 _).mono ?_
        rintro e w1 ⟨rfl, hb1⟩
        rw [← hW] at hb1
        have c0 := cellz (j := 0) (u := .int .u32 (c : Int)) hb1 r1 rfl
        have c1 := cellz (j := 1) (u := .int .u32 (d : Int)) hb1 r1 rfl
        go_wp2_with fail
        refine (h2 _).mono ?_
        rintro e w2 ⟨rfl, hb2⟩
        have hz2 := hb1.trans (hb2.mono hb1.size)
        clear c0 c1 h1 h2 hW
        go_wp2_with fail
        refine (h3 _).mono ?_
        rintro e w3 ⟨rfl, hb3⟩
        have hz3 := hz2.trans (hb3.mono hz2.size)
        go_wp2_with fail
        refine (h4 _).mono ?_
        rintro e w4 ⟨rfl, hb4⟩
        have hz4 := hz3.trans ((unal hb4).mono hz3.size)
        have rp := (hb4.block w3.heap.size (by simp)).trans (heap_alloc_new w3 _)
        have hs4 : w3.heap.size < w4.heap.size := (Array.getElem?_eq_some_iff.1 rp).1
        have kp0 : ∀ o, (w4.alloc o).cell? ⟨w3.heap.size, 0, none⟩ = some (.int .u32 (p1 : Int)) := fun o => cell_of_row _ _ 0 _ _ _ (row_old o rp)
        have kp1 : ∀ o, (w4.alloc o).cell? ⟨w3.heap.size, 1, none⟩ = some (.int .u32 P2) := fun o => cell_of_row _ _ 1 _ _ _ (row_old o rp)
        have zX := hz4.trans (show Below W.heap.size w4 (w4.alloc (.cells #[.int .u32 (q1 : Int), .int .u32 Q2] 25)) from ((Below.refl _ _).alloc (Nat.le_refl _) _).mono hz4.size)
        have hwX := Lib.hid (hwW.trans (zX.mono hwW.size))
        have hwX' : w.heap.size ≤ w4.heap.size := by have := hwW.size; have := hz4.size; omega
        clear hb1 hb2 hb3 hb4 hz2 hz3 hz4 h3 h4 e2 r0 r1 hwW zX
        go_wp2_with (first
          | (at_builtin; refine wpL_app (o := ⟨some 43, _, _, _, _, _⟩) (base := w.heap.size) (v := .slice none 0 0) (y := .slice (some ⟨w4.heap.size + 1, 0, none⟩) 1 1) rfl (.tmp 40) (.tmp 42) _ _ rfl E_rs rfl rfl (World.ownsRow_nil _ _ _ _) (Src.lit' (by simp) (n := 1) (sz := 2) Try.underlying36 #[.int .u32 (p1 : Int), .int .u32 P2] rfl (by simp [Value.oneCell'])) (by unfold maxLen; omega) (by omega) (by simp; omega) ?_; intro v5 w5 hown5 hg5 hat5
             have hg := ((Below.refl (w4.alloc (.cells #[.int .u32 (q1 : Int), .int .u32 Q2] 25)).heap.size (w4.alloc (.cells #[.int .u32 (q1 : Int), .int .u32 Q2] 25))).alloc (Nat.le_refl _) (.cells #[.int .u32 (p1 : Int), .int .u32 P2] 25)).grown hg5 (by simp) (fun j e => by cases e)
             have kq0' : w5.cell? ⟨w4.heap.size, 0, none⟩ = some (.int .u32 (q1 : Int)) := kept hg (cell_of_row _ _ 0 _ _ _ (heap_alloc_new w4 _))
             have kq1' : w5.cell? ⟨w4.heap.size, 1, none⟩ = some (.int .u32 Q2) := kept hg (cell_of_row _ _ 1 _ _ _ (heap_alloc_new w4 _))
             have kp0' : w5.cell? ⟨w3.heap.size, 0, none⟩ = some (.int .u32 (p1 : Int)) := kept hg (kp0 _)
             have kp1' : w5.cell? ⟨w3.heap.size, 1, none⟩ = some (.int .u32 P2) := kept hg (kp1 _)
             have HG := Lib.hid hg
             have HO5 := Lib.hid hown5
             clear hg hown5 kp0 kp1)
          | (at_builtin; refine wpL_app (o := ⟨some 55, _, _, _, _, _⟩) (base := w.heap.size) (v := v5) (y := .slice (some ⟨w5.heap.size, 0, none⟩) 1 1) rfl (.tmp 52) (.tmp 54) _ _ rfl E_rs rfl rfl (HO5.out.alloc _) (Src.lit' (by simp) (n := 1) (sz := 2) Try.underlying36 #[.int .u32 (q1 : Int), .int .u32 Q2] rfl (by simp [Value.oneCell'])) (by unfold maxLen; omega) (by omega) (by have := HG.out.size; simp at this; simp; omega) ?_; intro v6 w6 hown6 hg6 hat6)
          | fail)
        go_ret
        have hw5 := hwX.out.trans (HG.out.mono (by simp; omega))
        refine ⟨v6, rfl, by rw [HT.out, sps2, ← HP1.out, ← HP2.out]; exact hown6, ?_⟩
        exact (hw5.alloc hw5.size _).grown hg6 (by have := hw5.size; simp; omega) (fun j e => (HO5.out.lt j e).1)

end Go.Proofs.Ytijkagfppeeegaa

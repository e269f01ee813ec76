/- The contract of Without. -/
import Derived.Test.YtijkagfppeeegaaJoin2
import Derived.Deep.DeepCutAuto
import Derived.Deep.CutBlock
namespace Go.Proofs.Ytijkagfppeeegaa
open Go.RowKit

theorem cm_end (a b c d : Nat) (ha : a < 4294967296) (hc : c < 4294967296) : (cm a b c d).1 + (cm a b c d).2 ≤ 4294967296 := by
  unfold cm upt
  split <;> simp <;> omega

/-- What one has ahead of what both have, and behind it. -/
def ahd (a : Nat) (p : Nat × Nat) : Nat × Nat := upt a (min 4294967296 p.1)
def bhd (a b : Nat) (p : Nat × Nat) : Nat × Nat := upt (p.1 + p.2) (min 4294967296 (a + b))
/-- What one has without the other. -/
def wo (a b c d : Nat) : List (Nat × Nat) := if cm a b c d = (0, 0) then jn [(a, b)] else jn (srt (ahd a (cm a b c d)).1 (ahd a (cm a b c d)).2 (bhd a b (cm a b c d)).1 (bhd a b (cm a b c d)).2)

theorem join1 (b0 a b : Nat) (w : World) (h : Rd w w.heap.size 2 (some ⟨b0, 0, none⟩) 1 1 (sps [(a, b)])) (ha : a < 4294967296) (hb : b < 4294967296) :
    Calls Try.prog 21 #[.slice (some ⟨b0, 0, none⟩) 1 1] w fun e w' => ∃ v', e = .returned v' ∧ w'.ownsRow w.heap.size 24 2 v' (jn [(a, b)]).length (sps (jn [(a, b)])) ∧ Below w.heap.size w w' :=
  join_any _ 1 1 [(a, b)] w (.inl rfl) rfl (by intro p hp; simp at hp; subst hp; exact ⟨ha, hb⟩) fun W hW => rising1 b0 1 a b W ((h.below hW).more hW.size)

theorem srt_len (a b c d : Nat) : (srt a b c d).length = 2 := by unfold srt; split <;> rfl
theorem join2 (b0 a b c d : Nat) (w : World) (h : Rd w w.heap.size 2 (some ⟨b0, 0, none⟩) 2 2 (sps [(a, b), (c, d)])) (ha : a < 4294967296) (hb : b < 4294967296) (hc : c < 4294967296) (hd : d < 4294967296) :
    Calls Try.prog 21 #[.slice (some ⟨b0, 0, none⟩) 2 2] w fun e w' => ∃ v', e = .returned v' ∧ w'.ownsRow w.heap.size 24 2 v' (jn (srt a b c d)).length (sps (jn (srt a b c d))) ∧ Below w.heap.size w w' :=
  join_any _ 2 2 (srt a b c d) w (.inr rfl) (srt_len _ _ _ _) (by intro p hp; unfold srt at hp; split at hp <;> (simp at hp; rcases hp with rfl | rfl <;> first | exact ⟨ha, hb⟩ | exact ⟨hc, hd⟩)) fun W hW => rising2 b0 2 a b c d W ((h.below hW).more hW.size)

theorem Rd.lit2 (w : World) {B n b : Nat} {fr : Nat × Nat} (cs : Array Value) (e : TypeId) (xs : List Value) (hx : cs.toList = xs) (hn : cs.size = n * 2) (hm : n ≤ maxLen) (hb : b = w.heap.size) (hB : b < B) : Rd (w.alloc (.cells cs e fr)) B 2 (some ⟨b, 0, none⟩) n n xs := by
  subst hx
  subst hb
  exact ⟨Nat.le_refl _, hm, by simpa using hn, fun _ => ⟨w.heap.size, 0, rfl, hB, fun j u hu => by
    rw [cell_of_row _ w.heap.size (0 + j) cs e fr (heap_alloc_new w _)]
    simpa using hu⟩⟩

theorem rd_one (w : World) (cs : Array Value) (e : TypeId) (es : List (Bool × Nat × Nat)) (h : es.map feV = cs.toList) (h1 : cs.size = 1 := by rfl) : Rd (w.alloc (.cells cs e)) (w.alloc (.cells cs e)).heap.size 1 (some ⟨w.heap.size, 0, none⟩) 1 1 (es.map feV) := by
  rw [h]
  exact Rd.lit w cs e h1 (by unfold maxLen; omega) (by simp)

theorem upTo1 (x : Nat) (k : Bool) (y z b : Nat) (w : World) (hb : b = w.heap.size) (hx : x ≤ 4294967296) :
    Calls Try.prog 17 #[.int .u64 (x : Int), .slice (some ⟨b, 0, none⟩) 1 1] (w.alloc (.cells #[.func (.func (if k then 22 else 19)) #[.agg #[.int .u64 (y : Int), .int .u64 (z : Int)]] #[]] 44)) fun e w' =>
      e = .returned (.agg #[.int .u32 ((upt x (min 4294967296 (if k then y else z))).1 : Int), .int .u32 ((upt x (min 4294967296 (if k then y else z))).2 : Int)]) ∧ Below w.heap.size w w' := by
  subst hb
  exact (upTo_any x (some ⟨w.heap.size, 0, none⟩) 1 1 [(k, y, z)] _ hx rfl (Rd.lit (n := 1) w _ _ rfl (by unfold maxLen; omega) (by simp))).mono fun e w' h => ⟨h.1, unal h.2⟩

set_option maxHeartbeats 2000000 in
theorem without_any (a b c d : Nat) (w : World) (ha : a < 4294967296) (hb : b < 4294967296) (hc : c < 4294967296) (hd : d < 4294967296) :
    Calls Try.prog 13 #[.agg #[.int .u32 (a : Int), .int .u32 (b : Int)], .agg #[.int .u32 (c : Int), .int .u32 (d : Int)]] w fun e w' => ∃ v', e = .returned v' ∧ w'.ownsRow w.heap.size 24 2 v' (wo a b c d).length (sps (wo a b c d)) ∧ Below w.heap.size w w' := by
  have hcon := fun W => common_any a b c d W ha hb hc hd
  have hpl := cm_lt a b c d
  have hpe := cm_end a b c d ha hc
  have hkey : cm a b c d = (0, 0) ∨ 0 < (cm a b c d).2 := by
    unfold cm upt; split <;> simp; omega
  unfold wo
  generalize cm a b c d = p at *
  rcases hkey with rfl | hp
  · rw [if_pos rfl]
    go_enter Try.func13, Try.ntmps13
    go_wp2_with fail
    refine (hcon _).mono ?_
    rintro e w1 ⟨rfl, hb1⟩
    obtain ⟨W, hW, hWs, r0, r1, hwW⟩ := boxes2 w #[.int .u32 (a : Int), .int .u32 (b : Int)] #[.int .u32 (c : Int), .int .u32 (d : Int)] 24 24
    rw [← hW] at hb1
    clear hW hcon hpl hpe
    have e0 : ∀ o, (w1.alloc o).cell? ⟨w.heap.size, 0, none⟩ = some (.int .u32 (a : Int)) := fun o => cell_old o (cellz hb1 r0 rfl)
    have e1 : ∀ o, (w1.alloc o).cell? ⟨w.heap.size, 1, none⟩ = some (.int .u32 (b : Int)) := fun o => cell_old o (cellz hb1 r0 rfl)
    go_wp2_with fail
    refine (join1 _ a b _ (Rd.lit2 (n := 1) _ _ _ _ rfl rfl (by unfold maxLen; omega) (by simp) (by simp)) ha hb).mono ?_
    rintro e w2 ⟨v, rfl, ho, hb2⟩
    have HO := Lib.hid ho
    have HB := Lib.hid (unal (unal hb2))
    have hz1 := hb1.size
    clear ho hb2 e0 e1
    go_wp2
    go_ret
    exact ⟨v, rfl, ownsRow_low HO.out (by simp; omega), hwW.trans ((hb1.trans (HB.out.mono hz1)).mono hwW.size)⟩
  · rw [if_neg (by rintro rfl; exact absurd hp (by decide))]
    have hA := upt_lt a (min 4294967296 p.1) (Nat.min_le_left _ _)
    have hB := upt_lt (p.1 + p.2) (min 4294967296 (a + b)) (Nat.min_le_left _ _)
    have hupA := fun g W (h : Rd W W.heap.size 1 (some ⟨g, 0, none⟩) 1 1 ([(true, p.1, p.1 + p.2)].map feV)) => upTo_any a (some ⟨g, 0, none⟩) 1 1 [(true, p.1, p.1 + p.2)] W (Nat.le_of_lt ha) rfl h
    have hupB := fun g W (h : Rd W W.heap.size 1 (some ⟨g, 0, none⟩) 1 1 ([(false, a, a + b)].map feV)) => upTo_any (p.1 + p.2) (some ⟨g, 0, none⟩) 1 1 [(false, a, a + b)] W hpe rfl h
    rw [show lim [(true, p.1, p.1 + p.2)] = min 4294967296 p.1 from rfl] at hupA
    rw [show lim [(false, a, a + b)] = min 4294967296 (a + b) from rfl] at hupB
    have hjo := fun b0 W h => join2 b0 (ahd a p).1 (ahd a p).2 (bhd a b p).1 (bhd a b p).2 W h hA.1 hA.2 hB.1 hB.2
    rw [show upt a (min 4294967296 p.1) = ahd a p from rfl] at hupA
    rw [show upt (p.1 + p.2) (min 4294967296 (a + b)) = bhd a b p from rfl] at hupB
    clear hA hB
    generalize ahd a p = A at *
    generalize bhd a b p = B at *
    generalize jn (srt A.1 A.2 B.1 B.2) = J at *
    obtain ⟨x, y⟩ := p
    simp only at hp hpl hpe hcon hupA hupB
    have hpl1 := hpl.1
    have hpl2 := hpl.2
    have q1 : ((y : Int) == 0) = false := by simp; omega
    clear hpl hp
    go_enter Try.func13, Try.ntmps13
    go_wp2_with fail
    refine (hcon _).mono ?_
    rintro e w1 ⟨rfl, hb1⟩
    obtain ⟨W, hW, hWs, r0, r1, hwW⟩ := boxes2 w #[.int .u32 (a : Int), .int .u32 (b : Int)] #[.int .u32 (c : Int), .int .u32 (d : Int)] 24 24
    rw [← hW] at hb1
    clear hW hcon
    have hz1 := hb1.size
    obtain ⟨X, hX⟩ : ∃ X, X = w1.alloc (.cells #[.int .u32 (x : Int), .int .u32 (y : Int)] 24) := ⟨_, rfl⟩
    have x0 : X.heap[w.heap.size]? = some (.cells #[.int .u32 (a : Int), .int .u32 (b : Int)] 24 (0, 0)) := by rw [hX]; exact row_old _ ((hb1.block _ (by omega)).trans r0)
    have x2 : X.heap[w1.heap.size]? = some (.cells #[.int .u32 (x : Int), .int .u32 (y : Int)] 24 (0, 0)) := by rw [hX]; exact row_here _ _ rfl
    have hXs : X.heap.size = w1.heap.size + 1 := by rw [hX]; simp
    have hwX : Below w.heap.size w X := by rw [hX]; exact hwW.trans ((hb1.alloc hz1 _).mono hwW.size)
    go_wp2_with fail
    rw [← hX]
    go_cut [6] (fun gv wx => ∃ g, gv = .pointer (some ⟨g, 0, none⟩) ∧ X.heap.size ≤ g ∧ Hid (wx.heap[g]? = some (.cells #[.int .u32 (A.1 : Int), .int .u32 (A.2 : Int)] 24 (0, 0))) ∧ Hid (Below X.heap.size X wx))
    case first =>
      refine wp_tree X.heap.size (.two [0, 1, 2, 3] 4 8 (.two [5] 6 8 (.two [] 7 8 (.one [] 8 (.one [] 9 (.fin []))) (.one [] 7 (.one [] 9 (.fin [])))) (.one [] 6 (.one [] 7 (.one [] 9 (.fin []))))) (.one [] 4 (.one [5] 6 (.one [] 7 (.one [] 9 (.fin [])))))) (by kernel_rfl) (by kernel_rfl) (fun d _ _ _ _ h => by cases d <;> exact h) fun wd hbd => ?_
      intro q hq
      have d0 := fun z => cellz (j := 0) (hq z) x0 rfl
      have d1 := fun z => cellz (j := 1) (hq z) x0 rfl
      have d2 := fun z => cellz (j := 0) (hq z) x2 rfl
      have d3 := fun z => cellz (j := 1) (hq z) x2 rfl
      simp only [pickI, Option.toList_some, List.cons_append, List.nil_append, List.getElem?_toArray, List.getElem?_cons_succ, List.getElem?_cons_zero]
      repeat (go_big_quiet_step (fail))
      refine wpQuiet_nil ?_
      clear d0 d1 d2 d3 hq q
      refine ⟨?_, ?_⟩
      · skip
        refine seg_op (by simp only [List.getElem?_toArray, List.getElem?_cons_succ, List.getElem?_cons_zero]; rfl) fun K hK => ?_
        go_simp
        refine (runOf_any x y _ hpl1 hpl2).mono ?_
        rintro e v1 ⟨rfl, bv1⟩
        have zv1 := hbd.trans (bv1.mono hbd.size)
        refine hK.out _ _ ⟨zv1, ?_⟩
        clear hK K
        intro q hq
        have d0 := fun z => cellz (j := 0) (hq z) x0 rfl
        have d1 := fun z => cellz (j := 1) (hq z) x0 rfl
        have d2 := fun z => cellz (j := 0) (hq z) x2 rfl
        have d3 := fun z => cellz (j := 1) (hq z) x2 rfl
        simp only [pickI, Option.toList_some, List.cons_append, List.nil_append, List.getElem?_toArray, List.getElem?_cons_succ, List.getElem?_cons_zero]
        repeat (go_big_quiet_step (fail))
        refine wpQuiet_nil ?_
        clear d0 d1 d2 d3 hq q
        refine ⟨?_, ?_⟩
        · skip
          refine seg_op (by simp only [List.getElem?_toArray, List.getElem?_cons_succ, List.getElem?_cons_zero]; rfl) fun K hK => ?_
          go_simp
          obtain ⟨v2, hv2⟩ : ∃ v, v = v1.alloc (.cells #[.func (.func 22) #[.agg #[.int .u64 (x : Int), .int .u64 ((x : Int) + (y : Int))]] #[]] 44) := ⟨_, rfl⟩
          rw [← hv2]
          have bv2 : Below v1.heap.size v1 v2 := by rw [hv2]; exact (Below.refl _ _).alloc (Nat.le_refl _) _
          have dv2 : Rd v2 v2.heap.size 1 (some ⟨v1.heap.size, 0, none⟩) 1 1 ([(true, x, x + y)].map feV) := by rw [hv2]; exact rd_one v1 _ _ _ (by simp [feV])
          have zv2 := zv1.trans (bv2.mono zv1.size)
          refine hK.out _ _ ⟨zv2, ?_⟩
          clear hK K hv2
          intro q hq
          refine wpQuiet_nil ?_
          clear hq q
          refine ⟨?_, ?_⟩
          · skip
            refine seg_op (by simp only [List.getElem?_toArray, List.getElem?_cons_succ, List.getElem?_cons_zero]; rfl) fun K hK => ?_
            go_simp
            refine (hupA _ _ dv2).mono ?_
            rintro e v3 ⟨rfl, bv3⟩
            have zv3 := zv2.trans (bv3.mono zv2.size)
            have dv3 := (dv2.below bv3).more bv3.size
            refine hK.out _ _ ⟨zv3, ?_⟩
            clear hK K
            intro q hq
            refine wpQuiet_nil ?_
            clear hq q
            refine seg_op (by simp only [List.getElem?_toArray, List.getElem?_cons_succ, List.getElem?_cons_zero]; rfl) fun K hK => ?_
            go_simp
            obtain ⟨v4, hv4⟩ : ∃ v, v = v3.alloc (.cells #[.int .u32 0, .int .u32 0] 24) := ⟨_, rfl⟩
            rw [← hv4]
            have bv4 : Below v3.heap.size v3 v4 := by rw [hv4]; exact (Below.refl _ _).alloc (Nat.le_refl _) _
            have rv4 : v4.heap[v3.heap.size]? = some (.cells #[.int .u32 0, .int .u32 0] 24 (0, 0)) := by rw [hv4]; exact row_here _ _ rfl
            have gv4 : X.heap.size ≤ v3.heap.size := zv3.size
            have zv4 := zv3.trans (bv4.mono zv3.size)
            have dv4 := (dv3.below bv4).more bv4.size
            refine hK.out _ _ ⟨zv4, ?_⟩
            clear hK K hv4
            intro q hq
            refine wpQuiet_nil ?_
            clear hq q
            have e0 := cell_of_row v4 _ 0 _ _ _ rv4
            have e1 := cell_of_row v4 _ 1 _ _ _ rv4
            have f0 := frozen_of_row v4 _ 0 _ _ rv4
            have f1 := frozen_of_row v4 _ 1 _ _ rv4
            simp at e0 e1
            refine seg_op (by simp only [List.getElem?_toArray, List.getElem?_cons_succ, List.getElem?_cons_zero]; rfl) fun K hK => ?_
            go_simp
            have zz := (zv4.setCell (p := ⟨v3.heap.size, 0, none⟩) gv4 (.int .u32 (A.1 : Int))).setCell (p := ⟨v3.heap.size, 1, none⟩) gv4 (.int .u32 (A.2 : Int))
            have rr := heap_setCell_same _ v3.heap.size 1 _ _ (.int .u32 (A.2 : Int)) (heap_setCell_same v4 v3.heap.size 0 _ _ (.int .u32 (A.1 : Int)) rv4)
            refine hK.out _ _ ⟨zz, ?_⟩
            clear hK K
            intro q hq
            refine wpQuiet_nil ?_
            clear hq q
            have ZZ := Lib.hid zz
            have RR := Lib.hid rr
            clear zz rr
            go_wp2_with (fail)
            go_meet
            case rel => exact ⟨v3.heap.size, rfl, gv4, RR, ZZ⟩
          · skip
            refine seg_op (by simp only [List.getElem?_toArray, List.getElem?_cons_succ, List.getElem?_cons_zero]; rfl) fun K hK => ?_
            go_simp
            obtain ⟨v5, hv5⟩ : ∃ v, v = v2.alloc (.cells #[.int .u32 0, .int .u32 0] 24) := ⟨_, rfl⟩
            rw [← hv5]
            have bv5 : Below v2.heap.size v2 v5 := by rw [hv5]; exact (Below.refl _ _).alloc (Nat.le_refl _) _
            have rv5 : v5.heap[v2.heap.size]? = some (.cells #[.int .u32 0, .int .u32 0] 24 (0, 0)) := by rw [hv5]; exact row_here _ _ rfl
            have gv5 : X.heap.size ≤ v2.heap.size := zv2.size
            have zv5 := zv2.trans (bv5.mono zv2.size)
            have dv5 := (dv2.below bv5).more bv5.size
            refine hK.out _ _ ⟨zv5, ?_⟩
            clear hK K hv5
            intro q hq
            refine wpQuiet_nil ?_
            clear hq q
            refine seg_op (by simp only [List.getElem?_toArray, List.getElem?_cons_succ, List.getElem?_cons_zero]; rfl) fun K hK => ?_
            go_simp
            refine (hupA _ _ dv5).mono ?_
            rintro e v6 ⟨rfl, bv6⟩
            have zv6 := zv5.trans (bv6.mono zv5.size)
            have dv6 := (dv5.below bv6).more bv6.size
            have rv6 := (bv6.block _ (Array.getElem?_eq_some_iff.1 rv5).1).trans rv5
            refine hK.out _ _ ⟨zv6, ?_⟩
            clear hK K
            intro q hq
            refine wpQuiet_nil ?_
            clear hq q
            have e0 := cell_of_row v6 _ 0 _ _ _ rv6
            have e1 := cell_of_row v6 _ 1 _ _ _ rv6
            have f0 := frozen_of_row v6 _ 0 _ _ rv6
            have f1 := frozen_of_row v6 _ 1 _ _ rv6
            simp at e0 e1
            refine seg_op (by simp only [List.getElem?_toArray, List.getElem?_cons_succ, List.getElem?_cons_zero]; rfl) fun K hK => ?_
            go_simp
            have zz := (zv6.setCell (p := ⟨v2.heap.size, 0, none⟩) gv5 (.int .u32 (A.1 : Int))).setCell (p := ⟨v2.heap.size, 1, none⟩) gv5 (.int .u32 (A.2 : Int))
            have rr := heap_setCell_same _ v2.heap.size 1 _ _ (.int .u32 (A.2 : Int)) (heap_setCell_same v6 v2.heap.size 0 _ _ (.int .u32 (A.1 : Int)) rv6)
            refine hK.out _ _ ⟨zz, ?_⟩
            clear hK K
            intro q hq
            refine wpQuiet_nil ?_
            clear hq q
            have ZZ := Lib.hid zz
            have RR := Lib.hid rr
            clear zz rr
            go_wp2_with (fail)
            go_meet
            case rel => exact ⟨v2.heap.size, rfl, gv5, RR, ZZ⟩
        · skip
          refine seg_op (by simp only [List.getElem?_toArray, List.getElem?_cons_succ, List.getElem?_cons_zero]; rfl) fun K hK => ?_
          go_simp
          obtain ⟨v7, hv7⟩ : ∃ v, v = v1.alloc (.cells #[.int .u32 0, .int .u32 0] 24) := ⟨_, rfl⟩
          rw [← hv7]
          have bv7 : Below v1.heap.size v1 v7 := by rw [hv7]; exact (Below.refl _ _).alloc (Nat.le_refl _) _
          have rv7 : v7.heap[v1.heap.size]? = some (.cells #[.int .u32 0, .int .u32 0] 24 (0, 0)) := by rw [hv7]; exact row_here _ _ rfl
          have gv7 : X.heap.size ≤ v1.heap.size := zv1.size
          have zv7 := zv1.trans (bv7.mono zv1.size)
          refine hK.out _ _ ⟨zv7, ?_⟩
          clear hK K hv7
          intro q hq
          refine wpQuiet_nil ?_
          clear hq q
          refine seg_op (by simp only [List.getElem?_toArray, List.getElem?_cons_succ, List.getElem?_cons_zero]; rfl) fun K hK => ?_
          go_simp
          obtain ⟨v8, hv8⟩ : ∃ v, v = v7.alloc (.cells #[.func (.func 22) #[.agg #[.int .u64 (x : Int), .int .u64 ((x : Int) + (y : Int))]] #[]] 44) := ⟨_, rfl⟩
          rw [← hv8]
          have bv8 : Below v7.heap.size v7 v8 := by rw [hv8]; exact (Below.refl _ _).alloc (Nat.le_refl _) _
          have dv8 : Rd v8 v8.heap.size 1 (some ⟨v7.heap.size, 0, none⟩) 1 1 ([(true, x, x + y)].map feV) := by rw [hv8]; exact rd_one v7 _ _ _ (by simp [feV])
          have zv8 := zv7.trans (bv8.mono zv7.size)
          have rv8 := (bv8.block _ (Array.getElem?_eq_some_iff.1 rv7).1).trans rv7
          refine hK.out _ _ ⟨zv8, ?_⟩
          clear hK K hv8
          intro q hq
          refine wpQuiet_nil ?_
          clear hq q
          refine seg_op (by simp only [List.getElem?_toArray, List.getElem?_cons_succ, List.getElem?_cons_zero]; rfl) fun K hK => ?_
          go_simp
          refine (hupA _ _ dv8).mono ?_
          rintro e v9 ⟨rfl, bv9⟩
          have zv9 := zv8.trans (bv9.mono zv8.size)
          have dv9 := (dv8.below bv9).more bv9.size
          have rv9 := (bv9.block _ (Array.getElem?_eq_some_iff.1 rv8).1).trans rv8
          refine hK.out _ _ ⟨zv9, ?_⟩
          clear hK K
          intro q hq
          refine wpQuiet_nil ?_
          clear hq q
          have e0 := cell_of_row v9 _ 0 _ _ _ rv9
          have e1 := cell_of_row v9 _ 1 _ _ _ rv9
          have f0 := frozen_of_row v9 _ 0 _ _ rv9
          have f1 := frozen_of_row v9 _ 1 _ _ rv9
          simp at e0 e1
          refine seg_op (by simp only [List.getElem?_toArray, List.getElem?_cons_succ, List.getElem?_cons_zero]; rfl) fun K hK => ?_
          go_simp
          have zz := (zv9.setCell (p := ⟨v1.heap.size, 0, none⟩) gv7 (.int .u32 (A.1 : Int))).setCell (p := ⟨v1.heap.size, 1, none⟩) gv7 (.int .u32 (A.2 : Int))
          have rr := heap_setCell_same _ v1.heap.size 1 _ _ (.int .u32 (A.2 : Int)) (heap_setCell_same v9 v1.heap.size 0 _ _ (.int .u32 (A.1 : Int)) rv9)
          refine hK.out _ _ ⟨zz, ?_⟩
          clear hK K
          intro q hq
          refine wpQuiet_nil ?_
          clear hq q
          have ZZ := Lib.hid zz
          have RR := Lib.hid rr
          clear zz rr
          go_wp2_with (fail)
          go_meet
          case rel => exact ⟨v1.heap.size, rfl, gv7, RR, ZZ⟩
      · skip
        refine seg_op (by simp only [List.getElem?_toArray, List.getElem?_cons_succ, List.getElem?_cons_zero]; rfl) fun K hK => ?_
        go_simp
        obtain ⟨v10, hv10⟩ : ∃ v, v = wd.alloc (.cells #[.int .u32 0, .int .u32 0] 24) := ⟨_, rfl⟩
        rw [← hv10]
        have bv10 : Below wd.heap.size wd v10 := by rw [hv10]; exact (Below.refl _ _).alloc (Nat.le_refl _) _
        have rv10 : v10.heap[wd.heap.size]? = some (.cells #[.int .u32 0, .int .u32 0] 24 (0, 0)) := by rw [hv10]; exact row_here _ _ rfl
        have gv10 : X.heap.size ≤ wd.heap.size := hbd.size
        have zv10 := hbd.trans (bv10.mono hbd.size)
        refine hK.out _ _ ⟨zv10, ?_⟩
        clear hK K hv10
        intro q hq
        refine wpQuiet_nil ?_
        clear hq q
        refine seg_op (by simp only [List.getElem?_toArray, List.getElem?_cons_succ, List.getElem?_cons_zero]; rfl) fun K hK => ?_
        go_simp
        refine (runOf_any x y _ hpl1 hpl2).mono ?_
        rintro e v11 ⟨rfl, bv11⟩
        have zv11 := zv10.trans (bv11.mono zv10.size)
        have rv11 := (bv11.block _ (Array.getElem?_eq_some_iff.1 rv10).1).trans rv10
        refine hK.out _ _ ⟨zv11, ?_⟩
        clear hK K
        intro q hq
        have d0 := fun z => cellz (j := 0) (hq z) x0 rfl
        have d1 := fun z => cellz (j := 1) (hq z) x0 rfl
        have d2 := fun z => cellz (j := 0) (hq z) x2 rfl
        have d3 := fun z => cellz (j := 1) (hq z) x2 rfl
        simp only [pickI, Option.toList_some, List.cons_append, List.nil_append, List.getElem?_toArray, List.getElem?_cons_succ, List.getElem?_cons_zero]
        repeat (go_big_quiet_step (fail))
        refine wpQuiet_nil ?_
        clear d0 d1 d2 d3 hq q
        refine seg_op (by simp only [List.getElem?_toArray, List.getElem?_cons_succ, List.getElem?_cons_zero]; rfl) fun K hK => ?_
        go_simp
        obtain ⟨v12, hv12⟩ : ∃ v, v = v11.alloc (.cells #[.func (.func 22) #[.agg #[.int .u64 (x : Int), .int .u64 ((x : Int) + (y : Int))]] #[]] 44) := ⟨_, rfl⟩
        rw [← hv12]
        have bv12 : Below v11.heap.size v11 v12 := by rw [hv12]; exact (Below.refl _ _).alloc (Nat.le_refl _) _
        have dv12 : Rd v12 v12.heap.size 1 (some ⟨v11.heap.size, 0, none⟩) 1 1 ([(true, x, x + y)].map feV) := by rw [hv12]; exact rd_one v11 _ _ _ (by simp [feV])
        have zv12 := zv11.trans (bv12.mono zv11.size)
        have rv12 := (bv12.block _ (Array.getElem?_eq_some_iff.1 rv11).1).trans rv11
        refine hK.out _ _ ⟨zv12, ?_⟩
        clear hK K hv12
        intro q hq
        refine wpQuiet_nil ?_
        clear hq q
        refine seg_op (by simp only [List.getElem?_toArray, List.getElem?_cons_succ, List.getElem?_cons_zero]; rfl) fun K hK => ?_
        go_simp
        refine (hupA _ _ dv12).mono ?_
        rintro e v13 ⟨rfl, bv13⟩
        have zv13 := zv12.trans (bv13.mono zv12.size)
        have dv13 := (dv12.below bv13).more bv13.size
        have rv13 := (bv13.block _ (Array.getElem?_eq_some_iff.1 rv12).1).trans rv12
        refine hK.out _ _ ⟨zv13, ?_⟩
        clear hK K
        intro q hq
        refine wpQuiet_nil ?_
        clear hq q
        have e0 := cell_of_row v13 _ 0 _ _ _ rv13
        have e1 := cell_of_row v13 _ 1 _ _ _ rv13
        have f0 := frozen_of_row v13 _ 0 _ _ rv13
        have f1 := frozen_of_row v13 _ 1 _ _ rv13
        simp at e0 e1
        refine seg_op (by simp only [List.getElem?_toArray, List.getElem?_cons_succ, List.getElem?_cons_zero]; rfl) fun K hK => ?_
        go_simp
        have zz := (zv13.setCell (p := ⟨wd.heap.size, 0, none⟩) gv10 (.int .u32 (A.1 : Int))).setCell (p := ⟨wd.heap.size, 1, none⟩) gv10 (.int .u32 (A.2 : Int))
        have rr := heap_setCell_same _ wd.heap.size 1 _ _ (.int .u32 (A.2 : Int)) (heap_setCell_same v13 wd.heap.size 0 _ _ (.int .u32 (A.1 : Int)) rv13)
        refine hK.out _ _ ⟨zz, ?_⟩
        clear hK K
        intro q hq
        refine wpQuiet_nil ?_
        clear hq q
        have ZZ := Lib.hid zz
        have RR := Lib.hid rr
        clear zz rr
        go_wp2_with (fail)
        go_meet
        case rel => exact ⟨wd.heap.size, rfl, gv10, RR, ZZ⟩
    case rest =>
      obtain ⟨g, rfl, hgX, RA, HX⟩ := hcut
      generalize wc = Y at *
      have hXY := HX.out.size
      have y0 := (HX.out.block _ (by omega)).trans x0
      have y2 := (HX.out.block _ (by omega)).trans x2
      clear x0 x2
      go_wp2_with fail
      go_cut [7] (fun gv wx => ∃ g, gv = .pointer (some ⟨g, 0, none⟩) ∧ Y.heap.size ≤ g ∧ Hid (wx.heap[g]? = some (.cells #[.int .u32 (B.1 : Int), .int .u32 (B.2 : Int)] 24 (0, 0))) ∧ Hid (Below Y.heap.size Y wx))
      case first =>
        refine wp_tree Y.heap.size (.two [0, 2] 1 7 (.two [] 3 7 (.two [4] 5 7 (.two [] 6 7 (.one [] 7 (.one [] 8 (.fin []))) (.one [] 6 (.one [] 8 (.fin [])))) (.one [] 5 (.one [] 6 (.one [] 8 (.fin []))))) (.one [] 3 (.one [4] 5 (.one [] 6 (.one [] 8 (.fin [])))))) (.one [] 1 (.one [] 3 (.one [4] 5 (.one [] 6 (.one [] 8 (.fin []))))))) (by kernel_rfl) (by kernel_rfl) (fun d _ _ _ _ h => by cases d <;> exact h) fun wd2 hbd2 => ?_
        intro q hq
        have d0 := fun z => cellz (j := 0) (hq z) y0 rfl
        have d1 := fun z => cellz (j := 1) (hq z) y0 rfl
        have d2 := fun z => cellz (j := 0) (hq z) y2 rfl
        have d3 := fun z => cellz (j := 1) (hq z) y2 rfl
        simp only [pickI, Option.toList_some, List.cons_append, List.nil_append, List.getElem?_toArray, List.getElem?_cons_succ, List.getElem?_cons_zero]
        repeat (go_big_quiet_step (fail))
        refine wpQuiet_nil ?_
        clear d0 d1 d2 d3 hq q
        refine ⟨?_, ?_⟩
        · skip
          refine seg_op (by simp only [List.getElem?_toArray, List.getElem?_cons_succ, List.getElem?_cons_zero]; rfl) fun K hK => ?_
          go_simp
          refine (end_any x y _ hpl1 hpl2).mono ?_
          rintro e v1 ⟨rfl, bv1⟩
          have zv1 := hbd2.trans (bv1.mono hbd2.size)
          refine hK.out _ _ ⟨zv1, ?_⟩
          clear hK K
          intro q hq
          refine wpQuiet_nil ?_
          clear hq q
          refine ⟨?_, ?_⟩
          · skip
            refine seg_op (by simp only [List.getElem?_toArray, List.getElem?_cons_succ, List.getElem?_cons_zero]; rfl) fun K hK => ?_
            go_simp
            refine (runOf_any a b _ ha hb).mono ?_
            rintro e v2 ⟨rfl, bv2⟩
            have zv2 := zv1.trans (bv2.mono zv1.size)
            refine hK.out _ _ ⟨zv2, ?_⟩
            clear hK K
            intro q hq
            have d0 := fun z => cellz (j := 0) (hq z) y0 rfl
            have d1 := fun z => cellz (j := 1) (hq z) y0 rfl
            have d2 := fun z => cellz (j := 0) (hq z) y2 rfl
            have d3 := fun z => cellz (j := 1) (hq z) y2 rfl
            simp only [pickI, Option.toList_some, List.cons_append, List.nil_append, List.getElem?_toArray, List.getElem?_cons_succ, List.getElem?_cons_zero]
            repeat (go_big_quiet_step (fail))
            refine wpQuiet_nil ?_
            clear d0 d1 d2 d3 hq q
            refine ⟨?_, ?_⟩
            · skip
              refine seg_op (by simp only [List.getElem?_toArray, List.getElem?_cons_succ, List.getElem?_cons_zero]; rfl) fun K hK => ?_
              go_simp
              obtain ⟨v3, hv3⟩ : ∃ v, v = v2.alloc (.cells #[.func (.func 19) #[.agg #[.int .u64 (a : Int), .int .u64 ((a : Int) + (b : Int))]] #[]] 44) := ⟨_, rfl⟩
              rw [← hv3]
              have bv3 : Below v2.heap.size v2 v3 := by rw [hv3]; exact (Below.refl _ _).alloc (Nat.le_refl _) _
              have dv3 : Rd v3 v3.heap.size 1 (some ⟨v2.heap.size, 0, none⟩) 1 1 ([(false, a, a + b)].map feV) := by rw [hv3]; exact rd_one v2 _ _ _ (by simp [feV])
              have zv3 := zv2.trans (bv3.mono zv2.size)
              refine hK.out _ _ ⟨zv3, ?_⟩
              clear hK K hv3
              intro q hq
              refine wpQuiet_nil ?_
              clear hq q
              refine ⟨?_, ?_⟩
              · skip
                refine seg_op (by simp only [List.getElem?_toArray, List.getElem?_cons_succ, List.getElem?_cons_zero]; rfl) fun K hK => ?_
                go_simp
                refine (hupB _ _ dv3).mono ?_
                rintro e v4 ⟨rfl, bv4⟩
                have zv4 := zv3.trans (bv4.mono zv3.size)
                have dv4 := (dv3.below bv4).more bv4.size
                refine hK.out _ _ ⟨zv4, ?_⟩
                clear hK K
                intro q hq
                refine wpQuiet_nil ?_
                clear hq q
                refine seg_op (by simp only [List.getElem?_toArray, List.getElem?_cons_succ, List.getElem?_cons_zero]; rfl) fun K hK => ?_
                go_simp
                obtain ⟨v5, hv5⟩ : ∃ v, v = v4.alloc (.cells #[.int .u32 0, .int .u32 0] 24) := ⟨_, rfl⟩
                rw [← hv5]
                have bv5 : Below v4.heap.size v4 v5 := by rw [hv5]; exact (Below.refl _ _).alloc (Nat.le_refl _) _
                have rv5 : v5.heap[v4.heap.size]? = some (.cells #[.int .u32 0, .int .u32 0] 24 (0, 0)) := by rw [hv5]; exact row_here _ _ rfl
                have gv5 : Y.heap.size ≤ v4.heap.size := zv4.size
                have zv5 := zv4.trans (bv5.mono zv4.size)
                have dv5 := (dv4.below bv5).more bv5.size
                refine hK.out _ _ ⟨zv5, ?_⟩
                clear hK K hv5
                intro q hq
                refine wpQuiet_nil ?_
                clear hq q
                have e0 := cell_of_row v5 _ 0 _ _ _ rv5
                have e1 := cell_of_row v5 _ 1 _ _ _ rv5
                have f0 := frozen_of_row v5 _ 0 _ _ rv5
                have f1 := frozen_of_row v5 _ 1 _ _ rv5
                simp at e0 e1
                refine seg_op (by simp only [List.getElem?_toArray, List.getElem?_cons_succ, List.getElem?_cons_zero]; rfl) fun K hK => ?_
                go_simp
                have zz := (zv5.setCell (p := ⟨v4.heap.size, 0, none⟩) gv5 (.int .u32 (B.1 : Int))).setCell (p := ⟨v4.heap.size, 1, none⟩) gv5 (.int .u32 (B.2 : Int))
                have rr := heap_setCell_same _ v4.heap.size 1 _ _ (.int .u32 (B.2 : Int)) (heap_setCell_same v5 v4.heap.size 0 _ _ (.int .u32 (B.1 : Int)) rv5)
                refine hK.out _ _ ⟨zz, ?_⟩
                clear hK K
                intro q hq
                refine wpQuiet_nil ?_
                clear hq q
                have ZZ := Lib.hid zz
                have RR := Lib.hid rr
                clear zz rr
                go_wp2_with (fail)
                go_meet
                case rel => exact ⟨v4.heap.size, rfl, gv5, RR, ZZ⟩
              · skip
                refine seg_op (by simp only [List.getElem?_toArray, List.getElem?_cons_succ, List.getElem?_cons_zero]; rfl) fun K hK => ?_
                go_simp
                obtain ⟨v6, hv6⟩ : ∃ v, v = v3.alloc (.cells #[.int .u32 0, .int .u32 0] 24) := ⟨_, rfl⟩
                rw [← hv6]
                have bv6 : Below v3.heap.size v3 v6 := by rw [hv6]; exact (Below.refl _ _).alloc (Nat.le_refl _) _
                have rv6 : v6.heap[v3.heap.size]? = some (.cells #[.int .u32 0, .int .u32 0] 24 (0, 0)) := by rw [hv6]; exact row_here _ _ rfl
                have gv6 : Y.heap.size ≤ v3.heap.size := zv3.size
                have zv6 := zv3.trans (bv6.mono zv3.size)
                have dv6 := (dv3.below bv6).more bv6.size
                refine hK.out _ _ ⟨zv6, ?_⟩
                clear hK K hv6
                intro q hq
                refine wpQuiet_nil ?_
                clear hq q
                refine seg_op (by simp only [List.getElem?_toArray, List.getElem?_cons_succ, List.getElem?_cons_zero]; rfl) fun K hK => ?_
                go_simp
                refine (hupB _ _ dv6).mono ?_
                rintro e v7 ⟨rfl, bv7⟩
                have zv7 := zv6.trans (bv7.mono zv6.size)
                have dv7 := (dv6.below bv7).more bv7.size
                have rv7 := (bv7.block _ (Array.getElem?_eq_some_iff.1 rv6).1).trans rv6
                refine hK.out _ _ ⟨zv7, ?_⟩
                clear hK K
                intro q hq
                refine wpQuiet_nil ?_
                clear hq q
                have e0 := cell_of_row v7 _ 0 _ _ _ rv7
                have e1 := cell_of_row v7 _ 1 _ _ _ rv7
                have f0 := frozen_of_row v7 _ 0 _ _ rv7
                have f1 := frozen_of_row v7 _ 1 _ _ rv7
                simp at e0 e1
                refine seg_op (by simp only [List.getElem?_toArray, List.getElem?_cons_succ, List.getElem?_cons_zero]; rfl) fun K hK => ?_
                go_simp
                have zz := (zv7.setCell (p := ⟨v3.heap.size, 0, none⟩) gv6 (.int .u32 (B.1 : Int))).setCell (p := ⟨v3.heap.size, 1, none⟩) gv6 (.int .u32 (B.2 : Int))
                have rr := heap_setCell_same _ v3.heap.size 1 _ _ (.int .u32 (B.2 : Int)) (heap_setCell_same v7 v3.heap.size 0 _ _ (.int .u32 (B.1 : Int)) rv7)
                refine hK.out _ _ ⟨zz, ?_⟩
                clear hK K
                intro q hq
                refine wpQuiet_nil ?_
                clear hq q
                have ZZ := Lib.hid zz
                have RR := Lib.hid rr
                clear zz rr
                go_wp2_with (fail)
                go_meet
                case rel => exact ⟨v3.heap.size, rfl, gv6, RR, ZZ⟩
            · skip
              refine seg_op (by simp only [List.getElem?_toArray, List.getElem?_cons_succ, List.getElem?_cons_zero]; rfl) fun K hK => ?_
              go_simp
              obtain ⟨v8, hv8⟩ : ∃ v, v = v2.alloc (.cells #[.int .u32 0, .int .u32 0] 24) := ⟨_, rfl⟩
              rw [← hv8]
              have bv8 : Below v2.heap.size v2 v8 := by rw [hv8]; exact (Below.refl _ _).alloc (Nat.le_refl _) _
              have rv8 : v8.heap[v2.heap.size]? = some (.cells #[.int .u32 0, .int .u32 0] 24 (0, 0)) := by rw [hv8]; exact row_here _ _ rfl
              have gv8 : Y.heap.size ≤ v2.heap.size := zv2.size
              have zv8 := zv2.trans (bv8.mono zv2.size)
              refine hK.out _ _ ⟨zv8, ?_⟩
              clear hK K hv8
              intro q hq
              refine wpQuiet_nil ?_
              clear hq q
              refine seg_op (by simp only [List.getElem?_toArray, List.getElem?_cons_succ, List.getElem?_cons_zero]; rfl) fun K hK => ?_
              go_simp
              obtain ⟨v9, hv9⟩ : ∃ v, v = v8.alloc (.cells #[.func (.func 19) #[.agg #[.int .u64 (a : Int), .int .u64 ((a : Int) + (b : Int))]] #[]] 44) := ⟨_, rfl⟩
              rw [← hv9]
              have bv9 : Below v8.heap.size v8 v9 := by rw [hv9]; exact (Below.refl _ _).alloc (Nat.le_refl _) _
              have dv9 : Rd v9 v9.heap.size 1 (some ⟨v8.heap.size, 0, none⟩) 1 1 ([(false, a, a + b)].map feV) := by rw [hv9]; exact rd_one v8 _ _ _ (by simp [feV])
              have zv9 := zv8.trans (bv9.mono zv8.size)
              have rv9 := (bv9.block _ (Array.getElem?_eq_some_iff.1 rv8).1).trans rv8
              refine hK.out _ _ ⟨zv9, ?_⟩
              clear hK K hv9
              intro q hq
              refine wpQuiet_nil ?_
              clear hq q
              refine seg_op (by simp only [List.getElem?_toArray, List.getElem?_cons_succ, List.getElem?_cons_zero]; rfl) fun K hK => ?_
              go_simp
              refine (hupB _ _ dv9).mono ?_
              rintro e v10 ⟨rfl, bv10⟩
              have zv10 := zv9.trans (bv10.mono zv9.size)
              have dv10 := (dv9.below bv10).more bv10.size
              have rv10 := (bv10.block _ (Array.getElem?_eq_some_iff.1 rv9).1).trans rv9
              refine hK.out _ _ ⟨zv10, ?_⟩
              clear hK K
              intro q hq
              refine wpQuiet_nil ?_
              clear hq q
              have e0 := cell_of_row v10 _ 0 _ _ _ rv10
              have e1 := cell_of_row v10 _ 1 _ _ _ rv10
              have f0 := frozen_of_row v10 _ 0 _ _ rv10
              have f1 := frozen_of_row v10 _ 1 _ _ rv10
              simp at e0 e1
              refine seg_op (by simp only [List.getElem?_toArray, List.getElem?_cons_succ, List.getElem?_cons_zero]; rfl) fun K hK => ?_
              go_simp
              have zz := (zv10.setCell (p := ⟨v2.heap.size, 0, none⟩) gv8 (.int .u32 (B.1 : Int))).setCell (p := ⟨v2.heap.size, 1, none⟩) gv8 (.int .u32 (B.2 : Int))
              have rr := heap_setCell_same _ v2.heap.size 1 _ _ (.int .u32 (B.2 : Int)) (heap_setCell_same v10 v2.heap.size 0 _ _ (.int .u32 (B.1 : Int)) rv10)
              refine hK.out _ _ ⟨zz, ?_⟩
              clear hK K
              intro q hq
              refine wpQuiet_nil ?_
              clear hq q
              have ZZ := Lib.hid zz
              have RR := Lib.hid rr
              clear zz rr
              go_wp2_with (fail)
              go_meet
              case rel => exact ⟨v2.heap.size, rfl, gv8, RR, ZZ⟩
          · skip
            refine seg_op (by simp only [List.getElem?_toArray, List.getElem?_cons_succ, List.getElem?_cons_zero]; rfl) fun K hK => ?_
            go_simp
            obtain ⟨v11, hv11⟩ : ∃ v, v = v1.alloc (.cells #[.int .u32 0, .int .u32 0] 24) := ⟨_, rfl⟩
            rw [← hv11]
            have bv11 : Below v1.heap.size v1 v11 := by rw [hv11]; exact (Below.refl _ _).alloc (Nat.le_refl _) _
            have rv11 : v11.heap[v1.heap.size]? = some (.cells #[.int .u32 0, .int .u32 0] 24 (0, 0)) := by rw [hv11]; exact row_here _ _ rfl
            have gv11 : Y.heap.size ≤ v1.heap.size := zv1.size
            have zv11 := zv1.trans (bv11.mono zv1.size)
            refine hK.out _ _ ⟨zv11, ?_⟩
            clear hK K hv11
            intro q hq
            refine wpQuiet_nil ?_
            clear hq q
            refine seg_op (by simp only [List.getElem?_toArray, List.getElem?_cons_succ, List.getElem?_cons_zero]; rfl) fun K hK => ?_
            go_simp
            refine (runOf_any a b _ ha hb).mono ?_
            rintro e v12 ⟨rfl, bv12⟩
            have zv12 := zv11.trans (bv12.mono zv11.size)
            have rv12 := (bv12.block _ (Array.getElem?_eq_some_iff.1 rv11).1).trans rv11
            refine hK.out _ _ ⟨zv12, ?_⟩
            clear hK K
            intro q hq
            have d0 := fun z => cellz (j := 0) (hq z) y0 rfl
            have d1 := fun z => cellz (j := 1) (hq z) y0 rfl
            have d2 := fun z => cellz (j := 0) (hq z) y2 rfl
            have d3 := fun z => cellz (j := 1) (hq z) y2 rfl
            simp only [pickI, Option.toList_some, List.cons_append, List.nil_append, List.getElem?_toArray, List.getElem?_cons_succ, List.getElem?_cons_zero]
            repeat (go_big_quiet_step (fail))
            refine wpQuiet_nil ?_
            clear d0 d1 d2 d3 hq q
            refine seg_op (by simp only [List.getElem?_toArray, List.getElem?_cons_succ, List.getElem?_cons_zero]; rfl) fun K hK => ?_
            go_simp
            obtain ⟨v13, hv13⟩ : ∃ v, v = v12.alloc (.cells #[.func (.func 19) #[.agg #[.int .u64 (a : Int), .int .u64 ((a : Int) + (b : Int))]] #[]] 44) := ⟨_, rfl⟩
            rw [← hv13]
            have bv13 : Below v12.heap.size v12 v13 := by rw [hv13]; exact (Below.refl _ _).alloc (Nat.le_refl _) _
            have dv13 : Rd v13 v13.heap.size 1 (some ⟨v12.heap.size, 0, none⟩) 1 1 ([(false, a, a + b)].map feV) := by rw [hv13]; exact rd_one v12 _ _ _ (by simp [feV])
            have zv13 := zv12.trans (bv13.mono zv12.size)
            have rv13 := (bv13.block _ (Array.getElem?_eq_some_iff.1 rv12).1).trans rv12
            refine hK.out _ _ ⟨zv13, ?_⟩
            clear hK K hv13
            intro q hq
            refine wpQuiet_nil ?_
            clear hq q
            refine seg_op (by simp only [List.getElem?_toArray, List.getElem?_cons_succ, List.getElem?_cons_zero]; rfl) fun K hK => ?_
            go_simp
            refine (hupB _ _ dv13).mono ?_
            rintro e v14 ⟨rfl, bv14⟩
            have zv14 := zv13.trans (bv14.mono zv13.size)
            have dv14 := (dv13.below bv14).more bv14.size
            have rv14 := (bv14.block _ (Array.getElem?_eq_some_iff.1 rv13).1).trans rv13
            refine hK.out _ _ ⟨zv14, ?_⟩
            clear hK K
            intro q hq
            refine wpQuiet_nil ?_
            clear hq q
            have e0 := cell_of_row v14 _ 0 _ _ _ rv14
            have e1 := cell_of_row v14 _ 1 _ _ _ rv14
            have f0 := frozen_of_row v14 _ 0 _ _ rv14
            have f1 := frozen_of_row v14 _ 1 _ _ rv14
            simp at e0 e1
            refine seg_op (by simp only [List.getElem?_toArray, List.getElem?_cons_succ, List.getElem?_cons_zero]; rfl) fun K hK => ?_
            go_simp
            have zz := (zv14.setCell (p := ⟨v1.heap.size, 0, none⟩) gv11 (.int .u32 (B.1 : Int))).setCell (p := ⟨v1.heap.size, 1, none⟩) gv11 (.int .u32 (B.2 : Int))
            have rr := heap_setCell_same _ v1.heap.size 1 _ _ (.int .u32 (B.2 : Int)) (heap_setCell_same v14 v1.heap.size 0 _ _ (.int .u32 (B.1 : Int)) rv14)
            refine hK.out _ _ ⟨zz, ?_⟩
            clear hK K
            intro q hq
            refine wpQuiet_nil ?_
            clear hq q
            have ZZ := Lib.hid zz
            have RR := Lib.hid rr
            clear zz rr
            go_wp2_with (fail)
            go_meet
            case rel => exact ⟨v1.heap.size, rfl, gv11, RR, ZZ⟩
        · skip
          refine seg_op (by simp only [List.getElem?_toArray, List.getElem?_cons_succ, List.getElem?_cons_zero]; rfl) fun K hK => ?_
          go_simp
          obtain ⟨v15, hv15⟩ : ∃ v, v = wd2.alloc (.cells #[.int .u32 0, .int .u32 0] 24) := ⟨_, rfl⟩
          rw [← hv15]
          have bv15 : Below wd2.heap.size wd2 v15 := by rw [hv15]; exact (Below.refl _ _).alloc (Nat.le_refl _) _
          have rv15 : v15.heap[wd2.heap.size]? = some (.cells #[.int .u32 0, .int .u32 0] 24 (0, 0)) := by rw [hv15]; exact row_here _ _ rfl
          have gv15 : Y.heap.size ≤ wd2.heap.size := hbd2.size
          have zv15 := hbd2.trans (bv15.mono hbd2.size)
          refine hK.out _ _ ⟨zv15, ?_⟩
          clear hK K hv15
          intro q hq
          refine wpQuiet_nil ?_
          clear hq q
          refine seg_op (by simp only [List.getElem?_toArray, List.getElem?_cons_succ, List.getElem?_cons_zero]; rfl) fun K hK => ?_
          go_simp
          refine (end_any x y _ hpl1 hpl2).mono ?_
          rintro e v16 ⟨rfl, bv16⟩
          have zv16 := zv15.trans (bv16.mono zv15.size)
          have rv16 := (bv16.block _ (Array.getElem?_eq_some_iff.1 rv15).1).trans rv15
          refine hK.out _ _ ⟨zv16, ?_⟩
          clear hK K
          intro q hq
          refine wpQuiet_nil ?_
          clear hq q
          refine seg_op (by simp only [List.getElem?_toArray, List.getElem?_cons_succ, List.getElem?_cons_zero]; rfl) fun K hK => ?_
          go_simp
          refine (runOf_any a b _ ha hb).mono ?_
          rintro e v17 ⟨rfl, bv17⟩
          have zv17 := zv16.trans (bv17.mono zv16.size)
          have rv17 := (bv17.block _ (Array.getElem?_eq_some_iff.1 rv16).1).trans rv16
          refine hK.out _ _ ⟨zv17, ?_⟩
          clear hK K
          intro q hq
          have d0 := fun z => cellz (j := 0) (hq z) y0 rfl
          have d1 := fun z => cellz (j := 1) (hq z) y0 rfl
          have d2 := fun z => cellz (j := 0) (hq z) y2 rfl
          have d3 := fun z => cellz (j := 1) (hq z) y2 rfl
          simp only [pickI, Option.toList_some, List.cons_append, List.nil_append, List.getElem?_toArray, List.getElem?_cons_succ, List.getElem?_cons_zero]
          repeat (go_big_quiet_step (fail))
          refine wpQuiet_nil ?_
          clear d0 d1 d2 d3 hq q
          refine seg_op (by simp only [List.getElem?_toArray, List.getElem?_cons_succ, List.getElem?_cons_zero]; rfl) fun K hK => ?_
          go_simp
          obtain ⟨v18, hv18⟩ : ∃ v, v = v17.alloc (.cells #[.func (.func 19) #[.agg #[.int .u64 (a : Int), .int .u64 ((a : Int) + (b : Int))]] #[]] 44) := ⟨_, rfl⟩
          rw [← hv18]
          have bv18 : Below v17.heap.size v17 v18 := by rw [hv18]; exact (Below.refl _ _).alloc (Nat.le_refl _) _
          have dv18 : Rd v18 v18.heap.size 1 (some ⟨v17.heap.size, 0, none⟩) 1 1 ([(false, a, a + b)].map feV) := by rw [hv18]; exact rd_one v17 _ _ _ (by simp [feV])
          have zv18 := zv17.trans (bv18.mono zv17.size)
          have rv18 := (bv18.block _ (Array.getElem?_eq_some_iff.1 rv17).1).trans rv17
          refine hK.out _ _ ⟨zv18, ?_⟩
          clear hK K hv18
          intro q hq
          refine wpQuiet_nil ?_
          clear hq q
          refine seg_op (by simp only [List.getElem?_toArray, List.getElem?_cons_succ, List.getElem?_cons_zero]; rfl) fun K hK => ?_
          go_simp
          refine (hupB _ _ dv18).mono ?_
          rintro e v19 ⟨rfl, bv19⟩
          have zv19 := zv18.trans (bv19.mono zv18.size)
          have dv19 := (dv18.below bv19).more bv19.size
          have rv19 := (bv19.block _ (Array.getElem?_eq_some_iff.1 rv18).1).trans rv18
          refine hK.out _ _ ⟨zv19, ?_⟩
          clear hK K
          intro q hq
          refine wpQuiet_nil ?_
          clear hq q
          have e0 := cell_of_row v19 _ 0 _ _ _ rv19
          have e1 := cell_of_row v19 _ 1 _ _ _ rv19
          have f0 := frozen_of_row v19 _ 0 _ _ rv19
          have f1 := frozen_of_row v19 _ 1 _ _ rv19
          simp at e0 e1
          refine seg_op (by simp only [List.getElem?_toArray, List.getElem?_cons_succ, List.getElem?_cons_zero]; rfl) fun K hK => ?_
          go_simp
          have zz := (zv19.setCell (p := ⟨wd2.heap.size, 0, none⟩) gv15 (.int .u32 (B.1 : Int))).setCell (p := ⟨wd2.heap.size, 1, none⟩) gv15 (.int .u32 (B.2 : Int))
          have rr := heap_setCell_same _ wd2.heap.size 1 _ _ (.int .u32 (B.2 : Int)) (heap_setCell_same v19 wd2.heap.size 0 _ _ (.int .u32 (B.1 : Int)) rv19)
          refine hK.out _ _ ⟨zz, ?_⟩
          clear hK K
          intro q hq
          refine wpQuiet_nil ?_
          clear hq q
          have ZZ := Lib.hid zz
          have RR := Lib.hid rr
          clear zz rr
          go_wp2_with (fail)
          go_meet
          case rel => exact ⟨wd2.heap.size, rfl, gv15, RR, ZZ⟩
      case rest =>
        obtain ⟨g2, rfl, hgY, RB, HY⟩ := hcut
        generalize wc = Z at *
        have hYZ := HY.out.size
        have hgl := (Array.getElem?_eq_some_iff.1 RA.out).1
        have ra := (HY.out.block _ hgl).trans RA.out
        have a0 := cell_of_row Z _ 0 _ _ _ ra
        have a1 := cell_of_row Z _ 1 _ _ _ ra
        have b0 := cell_of_row Z _ 0 _ _ _ RB.out
        have b1 := cell_of_row Z _ 1 _ _ _ RB.out
        simp at a0 a1 b0 b1
        clear ra y0 y2
        go_wp2_with fail
        refine (hjo _ _ (Rd.lit2 (n := 2) _ _ _ _ rfl rfl (by unfold maxLen; omega) (by simp) (by simp))).mono ?_
        rintro e w9 ⟨v, rfl, ho, hb9⟩
        have HO := Lib.hid ho
        have HB9 := Lib.hid (unal hb9)
        clear ho hb9 a0 a1 b0 b1
        go_wp2
        go_ret
        have h1 := hwX.trans (HX.out.mono hwX.size)
        have h2 := h1.trans (HY.out.mono h1.size)
        exact ⟨v, rfl, ownsRow_low HO.out (by have := h2.size; simp; omega), h2.trans (HB9.out.mono h2.size)⟩

end Go.Proofs.Ytijkagfppeeegaa

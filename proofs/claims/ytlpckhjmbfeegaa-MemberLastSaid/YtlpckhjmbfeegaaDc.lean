/- The reference's Add, Cut, From. -/
import Derived.Test.YtlpckhjmbfeegaaDb
namespace Go.Proofs.Ytlpckhjmbfeegaa
open Go.RowKit
set_option maxRecDepth 20000
section
variable {w w' w1 : World} {g c : Nat} {A : Option Addr} {t : Cv}
theorem jstop_cases (old : Nat) (x y : List It) : jstop old x y = 0 ∨ jstop old x y = 2 ∨ jstop old x y = 31 := by
  unfold jstop
  split
  · exact .inr (.inr rfl)
  · split
    · exact .inl rfl
    · exact .inr (.inl rfl)
theorem stop_join {k : Nat} {l : List It} (h1 : t.base ≤ k) (h2 : k ≤ t.last) : t.stop k l = jstop t.old (t.l.take (k - t.base)) l := by
  unfold Cv.stop jstop
  rw [term_last h1 h2, List.length_take]
  unfold Cv.last at h2
  rw [Nat.min_eq_left (by omega)]
/-- The items become what joined told. -/
theorem Rk.items {A2 : Option Addr} {c2 : Nat} {l2 : List It} (h : Rk w g A c t) (hb : Below w.heap.size w w1) (ho : w1.ownsRow w.heap.size 62 3 (.slice A2 l2.length c2) l2.length (its l2)) (hl : l2.length ≤ 4096) (hbd : t.base + l2.length < 9000000000000000000) :
    RMv w g A t.l.length { t with l := l2 } (w1.setCell ⟨g, 2, none⟩ (.slice A2 l2.length c2)) := by
  have h1 := h.below hb
  have hs := Keeps.set w1 g 2 (.slice A2 l2.length c2)
  have hfr : ∀ q, (Value.slice A2 l2.length c2).ownBlock = some q → w.heap.size ≤ q ∧ q < w1.heap.size := fun q hq => ho.lt q hq
  have hne : ∀ q, (Value.slice A2 l2.length c2).ownBlock = some q → q ≠ g := fun q hq e => by have := (hfr q hq).1; have := h.lt; omega
  have ho2 := hs.own ho hne
  have hblk : ∀ b o, A2 = some ⟨b, o, none⟩ → (Value.slice A2 l2.length c2).ownBlock = some b := fun b o e => by rw [e]; rfl
  refine ⟨A2, c2, ⟨?_, ownsRow_rd ho2, fun _ b o hA => hne b (hblk b o hA), hl, hbd⟩, (Keeps.of_below hb).trans hs (fun i hi => .inl hi), fun _ b o hA => .inr (hfr b (hblk b o hA)).1⟩
  rw [heap_setCell_same w1 g 2 _ _ _ h1.row]
  rfl
theorem RMv.after {t' : Cv} {n : Nat} (hb : Below w.heap.size w w1) (m : RMv w1 g A n t' w') : RMv w g A n t' w' := by
  obtain ⟨A', c', h1, h2, h3⟩ := m
  exact ⟨A', c', h1, (Keeps.of_below hb).trans h2 (fun i hi => .inl hi), fun hn b o hA => (h3 hn b o hA).imp id (Nat.le_trans hb.size)⟩
theorem RMv.then {t' : Cv} {n : Nat} (m : RMv w g A n t' w1) (hb : Below w1.heap.size w1 w') : RMv w g A n t' w' := by
  obtain ⟨A', c', h1, h2, h3⟩ := m
  exact ⟨A', c', h1.below hb, h2.trans (Keeps.of_below hb) (fun i hi => .inl hi), h3⟩
set_option maxHeartbeats 2000000 in
theorem radd_any (h : Rk w g A c t) {A2 : Option Addr} {n2 c2 : Nat} {y : List It} (hy : Rd w w.heap.size 3 A2 n2 c2 (its y)) (hn : y.length = n2) (h5 : n2 ≤ 5000) (hbd : t.last + n2 < 9000000000000000000) :
    Calls Try.prog 14 #[.pointer (some ⟨g, 0, none⟩), .slice A2 n2 c2] w fun e w' => e = .returned (.int .i64 (t.stop t.last y)) ∧ RMv w g A t.l.length (t.put t.last y) w' := by
  have hst : t.stop t.last y = jstop t.old t.l y := by
    rw [stop_join (by unfold Cv.last; omega) (Nat.le_refl _), List.take_of_length_le (by unfold Cv.last; omega)]
  have hput : t.put t.last y = if jstop t.old t.l y = 0 then { t with l := t.l ++ y } else t := by
    unfold Cv.put Cv.set
    rw [hst, List.take_of_length_le (by unfold Cv.last; omega)]
  have hlen : jstop t.old t.l y = 0 → (t.l ++ y).length ≤ 4096 := by
    intro e
    unfold jstop at e
    split at e
    · cases e
    · rw [List.length_append]; omega
  rw [hst, hput]
  have HH := Lib.hid h
  have HJ := Lib.hid (fun W (hb : Below w.heap.size w W) => joined_any (w := W) t.old (h.below hb).rd ((hy.below hb).more hb.size) rfl hn h.room h5)
  have HLE := Lib.hid hlen
  have HBD := Lib.hid (show t.base + (t.l ++ y).length < 9000000000000000000 by rw [List.length_append, hn]; unfold Cv.last at hbd; omega)
  have c1 := h.c1
  have c2 := h.c2
  have hg := h.lt
  have hj3 := jstop_cases t.old t.l y
  unfold Joined at HJ
  generalize jstop t.old t.l y = js at *
  clear h hy hn h5 hbd hst hput hlen
  go_enter Try.func14, Try.ntmps14
  go_wp2_with (fail)
  refine wp_grow [([0, 1, 2, 3, 4, 5, 6, 7, 8], 9)] [10, 11, 12, 13, 14] (by kernel_rfl) (by kernel_rfl) (fun d _ _ _ _ h => by cases d <;> exact h) fun wd hbd => ?_
  intro q hq
  have F1 := fun z => ((hq z).cell (p := ⟨g, 1, none⟩) hg).trans c1
  have F2 := fun z => ((hq z).cell (p := ⟨g, 2, none⟩) hg).trans c2
  simp only [pickI, Option.toList_some, List.cons_append, List.nil_append, List.getElem?_toArray, List.getElem?_cons_succ, List.getElem?_cons_zero]
  try go_frame
  repeat (go_big_quiet_step (fail))
  refine wpQuiet_nil ?_
  clear hq q F1 F2
  refine seg_op (by simp only [List.getElem?_toArray, List.getElem?_cons_succ, List.getElem?_cons_zero]; rfl) fun K hK => ?_
  go_simp
  refine (HJ.out wd hbd).mono ?_
  rintro e w3 ⟨A3, n3, c3, rfl, hb3, ho3⟩
  have HO3 := Lib.hid ho3
  have z3 := hbd.trans (hb3.mono hbd.size)
  have HB3 := Lib.hid z3
  have HBD2 := Lib.hid hbd.size
  refine hK.out _ _ (seg_keep z3 ?_)
  clear hK K ho3 hb3 z3
  try go_frame
  intro q hq
  simp only [pickI, Option.toList_some, List.cons_append, List.nil_append, List.getElem?_toArray, List.getElem?_cons_succ, List.getElem?_cons_zero]
  repeat (go_big_quiet_step (fail))
  refine wpQuiet_nil ?_
  clear hq q hbd
  rcases hj3 with rfl | rfl | rfl
  · obtain ⟨rfl, hown⟩ := HO3.out rfl
    have h3 := HH.out.below HB3.out
    have f2 := h3.fr 2
    have e2 := h3.c2
    obtain ⟨l2, hl2⟩ : ∃ l2, l2 = t.l ++ y := ⟨_, rfl⟩
    have hm := HH.out.items (l2 := t.l ++ y) HB3.out (ownsRow_low hown HBD2.out) (HLE.out rfl) HBD.out
    have HM := Lib.hid hm
    clear hm hown h3 hl2
    go_wp2_with (fail)
    go_ret
    exact ⟨rfl, by simpa using HM.out⟩
  · go_wp2_with (fail)
    go_ret
    exact ⟨rfl, RMv.same HH.out HB3.out⟩
  · go_wp2_with (fail)
    go_ret
    exact ⟨rfl, RMv.same HH.out HB3.out⟩
end
end Go.Proofs.Ytlpckhjmbfeegaa

/- Contracts of the document's own Reader (keelsonref01): Num, Text, End of whatever. -/
import Derived.Test.YtacaonlahggdeaaDoorRefb
namespace Go.Proofs.YtacaonlahggdeaaDoor
open Go.RowKit
set_option maxRecDepth 20000

theorem rnum_bad (g n c a : Nat) (b : Bool) (A : Option Addr) (l : List UInt8) (W : Int) (w : World) (h : RefR w g A n c a b) (ha : a ≤ n) (hW : W < 1 ∨ 8 < W) :
    Calls Tryd.prog 39 #[.pointer (some ⟨g, 0, none⟩), .int .i64 W] w (Numbered w g A n c l ((refSt l a b).num W)) := by
  have h2 := h.cell2
  have f2 := h.free 2
  have hfin : Numbered w g A n c l ((refSt l a b).num W) (.returned (.int .u64 0)) (w.setCell ⟨g, 2, none⟩ (.bool true)) := by
    have : (refSt l a b).num W = (0, ⟨[], true⟩) := by unfold St.num; rw [if_neg (by omega)]
    rw [this]
    exact ⟨a, true, rfl, h.put2 true, ha, by simp [refSt], setCell_by (w' := w) (p := ⟨g, 2, none⟩) (World.grownBy.refl w _) rfl _⟩
  have H := Lib.hid hfin
  clear hfin
  rcases hW with hW | hW
  · go_enter Tryd.func39, Tryd.ntmps39
    go_wp2
    go_ret
    exact H.out
  · have h1 : decide (W < 1) = false := by simp; omega
    have h8 : decide (8 < W) = true := by simpa using hW
    go_enter Tryd.func39, Tryd.ntmps39
    go_wp2
    go_ret
    exact H.out
theorem rnum_all (B g n c a : Nat) (b : Bool) (A : Option Addr) (l : List UInt8) (W : Int) (w : World) (h : RefR w g A n c a b) (hr : Rd w B 1 A n c (u8s l)) (hB : B ≤ g) (ha : a ≤ n) (hn : n ≤ 1000000) :
    Calls Tryd.prog 39 #[.pointer (some ⟨g, 0, none⟩), .int .i64 W] w (Numbered w g A n c l ((refSt l a b).num W)) := by
  by_cases hW : 1 ≤ W ∧ W ≤ 8
  · exact rnum_any B g n c a b A l W w h hr hB ha hn hW.1 hW.2
  · exact rnum_bad g n c a b A l W w h ha (by omega)

theorem next_bad (l : List UInt8) (a : Nat) (m : Int) : (refSt l a true).next m = ([], ⟨[], true⟩) := by
  unfold refSt St.next
  simp only [if_true]
  split <;> simp
def Texted (w : World) (g : Nat) (A : Option Addr) (n c : Nat) (l : List UInt8) (r : List UInt8 × St) (e : Ending) (w' : World) : Prop :=
  ∃ a' b', e = .returned (.string (str r.1)) ∧ RefR w' g A n c a' b' ∧ a' ≤ n ∧ refSt l a' b' = r.2 ∧ w.grownBy w' (some g)

theorem Rd.by {w w' : World} {B sz n c g : Nat} {A : Option Addr} {xs : List Value} (h : Rd w B sz A n c xs) (hB : B ≤ w.heap.size) (hg : w.grownBy w' (some g)) (hb : B ≤ g) : Rd w' B sz A n c xs :=
  h.keep fun b o hlt => World.cell?_of_block (hg.block b (by omega) (fun e => by cases e; omega))

theorem rtext_all (B g n c a : Nat) (b : Bool) (A : Option Addr) (l : List UInt8) (w : World) (h : RefR w g A n c a b) (hr : Rd w B 1 A n c (u8s l)) (hB : B ≤ g) (ha : a ≤ n) (hn : n ≤ 1000000) :
    Calls Tryd.prog 40 #[.pointer (some ⟨g, 0, none⟩)] w (Texted w g A n c l (refSt l a b).text) := by
  have hnum := rnum_all B g n c a b A l 2 w h hr hB ha hn
  have hBw : B ≤ w.heap.size := Nat.le_trans hB (Nat.le_of_lt h.lt)
  by_cases hb : 16384 < ((refSt l a b).num 2).1
  · have hfin : (refSt l a b).text = ([], ⟨[], true⟩) := by unfold St.text; rw [if_pos hb]
    generalize (refSt l a b).num 2 = r at *
    obtain ⟨m, s'⟩ := r
    dsimp only at hb
    have H := Lib.hid hfin
    have HN := Lib.hid hnum
    clear hfin hnum
    have hbi : decide ((16384 : Int) < (m : Int)) = true := by simp; omega
    go_enter Tryd.func40, Tryd.ntmps40
    go_wp2_with (first
      | (go_at_call 39; refine (HN.out).mono ?_; rintro e w1 ⟨a1, b1, rfl, hR1, ha1, hst1, hby1⟩; have hc2 := hR1.cell2; have f2 := hR1.free 2
         have hR2 := Lib.hid (hR1.put2 true); have HS := Lib.hid hst1; clear hst1; have hby2 := Lib.hid (setCell_by (p := ⟨g, 2, none⟩) hby1 rfl (.bool true)); have hr2 := Lib.hid (Rd.by hr hBw hby2.out hB))
      | (go_at_call 58; refine (rtake_any B _ _ _ _ _ _ l _ _ hR2.out hr2.out hB ha1 hn).mono ?_; rintro e w2 ⟨A3, n3, c3, a3, b3, rfl, hr3, hR3, ha3, hst3, hby3⟩)
      | (refine wpL_str (o := ⟨some 15, _, _, _, _, _⟩) (A := A3) (n := n3) (c := c3) rfl (.tmp 14) 62 9 rfl Tryd.underlying62 Tryd.underlying5 Tryd.underlying9 rfl hr3 ?_))
    go_ret
    rw [H.out]
    refine ⟨a3, b3, ?_, hR3, ha3, ?_, grownBy_trans hby2.out hby3 (.inl rfl)⟩
    · refine congrArg (fun s => Ending.returned (.string (str s))) ?_
      exact congrArg Prod.fst (next_bad l a1 _)
    · rw [hst3]
      exact congrArg Prod.snd (next_bad l a1 _)
  · have hfin : (refSt l a b).text = ((refSt l a b).num 2).2.next ((refSt l a b).num 2).1 := by unfold St.text; rw [if_neg hb]
    generalize (refSt l a b).num 2 = r at *
    obtain ⟨m, s'⟩ := r
    dsimp only at hb hfin
    have H := Lib.hid hfin
    have HN := Lib.hid hnum
    clear hfin hnum
    have hbi : decide ((16384 : Int) < (m : Int)) = false := by simp; omega
    go_enter Tryd.func40, Tryd.ntmps40
    go_wp2_with (first
      | (go_at_call 39; refine (HN.out).mono ?_; rintro e w1 ⟨a1, b1, rfl, hR1, ha1, hst1, hby1⟩
         have HS := Lib.hid hst1; clear hst1; have hby2 := Lib.hid hby1; have hr2 := Lib.hid (Rd.by hr hBw hby2.out hB))
      | (go_at_call 58; refine (rtake_any B _ _ _ _ _ _ l _ _ hR1 hr2.out hB ha1 hn).mono ?_; rintro e w2 ⟨A3, n3, c3, a3, b3, rfl, hr3, hR3, ha3, hst3, hby3⟩)
      | (refine wpL_str (o := ⟨some 15, _, _, _, _, _⟩) (A := A3) (n := n3) (c := c3) rfl (.tmp 14) 62 9 rfl Tryd.underlying62 Tryd.underlying5 Tryd.underlying9 rfl hr3 ?_))
    go_ret
    rw [H.out]
    rw [HS.out] at hst3
    refine ⟨a3, b3, ?_, hR3, ha3, hst3, grownBy_trans hby2.out hby3 (.inl rfl)⟩
    rw [HS.out]
    rfl

theorem rend_any (g n c a : Nat) (b : Bool) (A : Option Addr) (l : List UInt8) (w : World) (h : RefR w g A n c a b) (hl : l.length = n) (ha : a ≤ n) (hn : n ≤ 1000000) :
    Calls Tryd.prog 42 #[.pointer (some ⟨g, 0, none⟩)] w fun e w' => e = .returned (.int .i64 (refSt l a b).end_) ∧ ∃ k, w' = w.drewN k := by
  have h2 := h.cell2
  cases b
  · have hfin : (refSt l a false).end_ = if a < n then 10 else 0 := by
      simp only [refSt, St.end_, Bool.false_eq_true, if_false, false_or, List.length_drop, hl]
      by_cases hh : a < n
      · rw [if_pos hh, if_pos (by omega)]
      · rw [if_neg hh, if_neg (by omega)]
    have H := Lib.hid hfin
    clear hfin hl
    by_cases hh : a < n
    · have hd : decide ((0 : Int) < (n : Int) - a) = true := by simp; omega
      go_enter Tryd.func42, Tryd.ntmps42
      go_wp2_with (go_at_call 59; refine (rleft_good _ _ _ _ _ _ h ha hn).mono ?_; rintro e w' ⟨rfl, k, rfl⟩)
      go_ret
      exact ⟨by rw [H.out, if_pos hh]; rfl, k, rfl⟩
    · have hd : decide ((0 : Int) < (n : Int) - a) = false := by simp; omega
      go_enter Tryd.func42, Tryd.ntmps42
      go_wp2_with (go_at_call 59; refine (rleft_good _ _ _ _ _ _ h ha hn).mono ?_; rintro e w' ⟨rfl, k, rfl⟩)
      go_ret
      exact ⟨by rw [H.out, if_neg hh]; rfl, k, rfl⟩
  · clear hl
    go_enter Tryd.func42, Tryd.ntmps42
    go_wp2
    go_ret
    exact ⟨rfl, 0, rfl⟩

end Go.Proofs.YtacaonlahggdeaaDoor

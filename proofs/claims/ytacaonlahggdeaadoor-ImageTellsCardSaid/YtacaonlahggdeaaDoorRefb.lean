/- Contracts of the document's own Reader (keelsonref01). -/
import Derived.Test.YtacaonlahggdeaaDoorRefa
namespace Go.Proofs.YtacaonlahggdeaaDoor
open Go.RowKit

def RefR (w : World) (g : Nat) (A : Option Addr) (n c at_ : Nat) (bad : Bool) : Prop := w.heap[g]? = some (.cells #[.slice A n c, .int .i64 at_, .bool bad] 89 (0, 0))
def refSt (l : List UInt8) (at_ : Nat) (bad : Bool) : St := if bad then ⟨[], true⟩ else ⟨l.drop at_, false⟩

section
variable {w w' : World} {g n c a : Nat} {A : Option Addr} {b : Bool}
theorem RefR.cell0 (h : RefR w g A n c a b) : w.cell? ⟨g, 0, none⟩ = some (.slice A n c) := cell_of_row w g 0 _ _ _ h
theorem RefR.cell1 (h : RefR w g A n c a b) : w.cell? ⟨g, 1, none⟩ = some (.int .i64 a) := cell_of_row w g 1 _ _ _ h
theorem RefR.cell2 (h : RefR w g A n c a b) : w.cell? ⟨g, 2, none⟩ = some (.bool b) := cell_of_row w g 2 _ _ _ h
theorem RefR.free (h : RefR w g A n c a b) (i : Nat) : w.frozen? ⟨g, i, none⟩ = false := frozen_of_row w g i _ _ h
theorem RefR.lt (h : RefR w g A n c a b) : g < w.heap.size := (Array.getElem?_eq_some_iff.1 h).1
theorem RefR.kept {row : Option Nat} (h : RefR w g A n c a b) (hg : w.grownBy w' row) (hne : some g ≠ row) : RefR w' g A n c a b := (hg.block g h.lt hne).trans h
theorem RefR.put1 (h : RefR w g A n c a b) (a' : Nat) : RefR (w.setCell ⟨g, 1, none⟩ (.int .i64 (a' : Int))) g A n c a' b := by
  unfold RefR
  rw [heap_setCell_same w g 1 _ _ _ h]
  rfl
theorem RefR.put2 (h : RefR w g A n c a b) (b' : Bool) : RefR (w.setCell ⟨g, 2, none⟩ (.bool b')) g A n c a b' := by
  unfold RefR
  rw [heap_setCell_same w g 2 _ _ _ h]
  rfl
end

def leftOf (n a : Nat) (b : Bool) : Int := if b then 0 else (n : Int) - a
theorem rleft_any (g n c a : Nat) (A : Option Addr) (b : Bool) (w : World) (h : RefR w g A n c a b) (ha : a ≤ n) (hn : n ≤ 1000000) :
    Calls Tryd.prog 59 #[.pointer (some ⟨g, 0, none⟩)] w fun e w' => e = .returned (.int .i64 (leftOf n a b)) ∧ ∃ k, w' = w.drewN k := by
  have h0 := h.cell0
  have h1 := h.cell1
  have h2 := h.cell2
  cases b
  · go_enter Tryd.func59, Tryd.ntmps59
    go_wp2
    go_quiet (fail)
    go_wp2
    go_ret
    exact ⟨rfl, nq, rfl⟩
  · go_enter Tryd.func59, Tryd.ntmps59
    go_wp2
    go_ret
    exact ⟨rfl, 0, rfl⟩

theorem rleft_good (g n c a : Nat) (A : Option Addr) (w : World) (h : RefR w g A n c a false) (ha : a ≤ n) (hn : n ≤ 1000000) :
    Calls Tryd.prog 59 #[.pointer (some ⟨g, 0, none⟩)] w fun e w' => e = .returned (.int .i64 ((n : Int) - a)) ∧ ∃ k, w' = w.drewN k := rleft_any g n c a A false w h ha hn
theorem rleft_bad (g n c a : Nat) (A : Option Addr) (w : World) (h : RefR w g A n c a true) (ha : a ≤ n) (hn : n ≤ 1000000) :
    Calls Tryd.prog 59 #[.pointer (some ⟨g, 0, none⟩)] w fun e w' => e = .returned (.int .i64 0) ∧ ∃ k, w' = w.drewN k := rleft_any g n c a A true w h ha hn
theorem by_drewN {w w' : World} {row : Option Nat} (h : w.grownBy w' row) (k : Nat) : w.grownBy (w'.drewN k) row := ⟨h.os, h.tape, h.output, h.size, h.block⟩

/-- What Take has done. -/
def Took (w : World) (B g : Nat) (A : Option Addr) (n c : Nat) (l : List UInt8) (r : List UInt8 × St) (e : Ending) (w' : World) : Prop :=
  ∃ A' n' c' a' b', e = .returned (.slice A' n' c') ∧ Rd w' B 1 A' n' c' (u8s r.1) ∧ RefR w' g A n c a' b' ∧ a' ≤ n ∧ refSt l a' b' = r.2 ∧ w.grownBy w' (some g)

theorem took_good (j B g n c a : Nat) (A : Option Addr) (l : List UInt8) (m : Int) (w : World) (h : RefR w g A n c a false) (hr : Rd w B 1 A n c (u8s l)) (hB : B ≤ g) (ha : a ≤ n) (hm : 0 ≤ m) (hm2 : m ≤ (n : Int) - a) :
    (¬c = a → Took w B g A n c l ((refSt l a false).next m) (.returned (.slice (Option.map (fun x => x.add a) A) (((a : Int) + m).toNat - a) (c - a))) ((w.drewN j).setCell ⟨g, 1, none⟩ (.int .i64 ((a : Int) + m)))) ∧
    (c = a → Took w B g A n a l ((refSt l a false).next m) (.returned (.slice A (((a : Int) + m).toNat - a) 0)) ((w.drewN j).setCell ⟨g, 1, none⟩ (.int .i64 ((a : Int) + m)))) := by
  obtain ⟨m, rfl⟩ := Int.eq_ofNat_of_zero_le hm
  have hl : l.length = n := by have := hr.len; rwa [u8s_len] at this
  have e1 : (((a : Int) + (m : Int)).toNat - a) = m := by omega
  have e2 : ((a : Int) + (m : Int)) = ((a + m : Nat) : Int) := by omega
  have hst : (refSt l a false).next (m : Int) = ((l.drop a).take m, ⟨(l.drop a).drop m, false⟩) := by
    unfold refSt St.next
    simp only [Bool.false_eq_true, if_false, Int.toNat_natCast]
    rw [if_pos (by rw [List.length_drop]; omega)]
  rw [e1, e2, hst]
  have hR : RefR ((w.drewN j).setCell ⟨g, 1, none⟩ (.int .i64 ((a + m : Nat) : Int))) g A n c (a + m) false := RefR.put1 (w := w.drewN j) h (a + m)
  have hby : w.grownBy ((w.drewN j).setCell ⟨g, 1, none⟩ (.int .i64 ((a + m : Nat) : Int))) (some g) := setCell_by (w' := w.drewN j) (p := ⟨g, 1, none⟩) (by_drewN (World.grownBy.refl w _) j) rfl _
  have hr1 : Rd ((w.drewN j).setCell ⟨g, 1, none⟩ (.int .i64 ((a + m : Nat) : Int))) B 1 A n c (u8s l) := Rd.setFar (w := w.drewN j) hr (p := ⟨g, 1, none⟩) hB _
  have hs2 : refSt l (a + m) false = ⟨(l.drop a).drop m, false⟩ := by simp [refSt, List.drop_drop]
  constructor
  · intro _
    refine ⟨_, _, _, a + m, false, rfl, ?_, hR, by omega, hs2, hby⟩
    have := hr1.cut (k := a) (m := m) (by omega)
    simpa [u8s, List.map_take, List.map_drop] using this
  · intro e
    subst e
    have hm0 : m = 0 := by have := hr.1; omega
    subst hm0
    refine ⟨_, _, _, c + 0, false, rfl, ?_, hR, by omega, hs2, hby⟩
    exact Rd.empty (Nat.zero_le _)

theorem rtake_good (B g n c a : Nat) (A : Option Addr) (l : List UInt8) (m : Int) (w : World) (h : RefR w g A n c a false) (hr : Rd w B 1 A n c (u8s l)) (hB : B ≤ g) (ha : a ≤ n) (hn : n ≤ 1000000) (hm : 0 ≤ m) (hm2 : m ≤ (n : Int) - a) :
    Calls Tryd.prog 58 #[.pointer (some ⟨g, 0, none⟩), .int .i64 m] w (Took w B g A n c l ((refSt l a false).next m)) := by
  have h0 := h.cell0
  have h1 := h.cell1
  have h2 := h.cell2
  have f1 := h.free 1
  have hnc := hr.1
  have hlt : decide ((n : Int) - a < m) = false := by simp; omega
  have hfin := fun k nq => took_good (k + nq) B g n c a A l m w h hr hB ha hm hm2
  have hA : ∀ k nq, ¬c = a → Took w B g A n c l ((refSt l a false).next m) (.returned (.slice (Option.map (fun x => x.add a) A) (((a : Int) + m).toNat - a) (c - a))) ((w.drewN (k + nq)).setCell ⟨g, 1, none⟩ (.int .i64 ((a : Int) + m))) := fun k nq hne => (hfin k nq).1 hne
  have hC : ∀ k nq, c = a → Took w B g A n a l ((refSt l a false).next m) (.returned (.slice A (((a : Int) + m).toNat - a) 0)) ((w.drewN (k + nq)).setCell ⟨g, 1, none⟩ (.int .i64 ((a : Int) + m))) := fun k nq e => (hfin k nq).2 e
  have HA := Lib.hid hA
  have HC := Lib.hid hC
  clear hA hC hfin
  go_enter Tryd.func58, Tryd.ntmps58
  go_wp2_with (go_at_call 59; refine (rleft_good _ _ _ _ _ _ h ha hn).mono ?_; rintro e w' ⟨rfl, k, rfl⟩)
  go_quiet (fail)
  go_wp2
  · go_ret
    exact HC.out k nq h
  · go_ret
    exact HA.out k nq h

theorem rtake_out (B g n c a : Nat) (A : Option Addr) (l : List UInt8) (m : Int) (w : World) (h : RefR w g A n c a false) (hr : Rd w B 1 A n c (u8s l)) (ha : a ≤ n) (hn : n ≤ 1000000) (hm : m < 0 ∨ (n : Int) - a < m) :
    Calls Tryd.prog 58 #[.pointer (some ⟨g, 0, none⟩), .int .i64 m] w (Took w B g A n c l ((refSt l a false).next m)) := by
  have h0 := h.cell0
  have h1 := h.cell1
  have h2 := h.cell2
  have f2 := h.free 2
  have hl : l.length = n := by have := hr.len; rwa [u8s_len] at this
  have hfin : ∀ k, Took w B g A n c l ((refSt l a false).next m) (.returned (.slice none 0 0)) ((w.drewN k).setCell ⟨g, 2, none⟩ (.bool true)) := by
    intro k
    have hst : (refSt l a false).next m = ([], ⟨[], true⟩) := by
      unfold refSt St.next
      simp only [Bool.false_eq_true, if_false]
      rw [if_neg (by rw [List.length_drop]; omega)]
    rw [hst]
    exact ⟨_, _, _, a, true, rfl, Rd.nil_, RefR.put2 (w := w.drewN k) h true, ha, by simp [refSt], setCell_by (w' := w.drewN k) (p := ⟨g, 2, none⟩) (by_drewN (World.grownBy.refl w _) k) rfl _⟩
  have H := Lib.hid hfin
  clear hfin hl
  rcases Int.lt_or_le m 0 with hm0 | hm0
  · clear hm
    go_enter Tryd.func58, Tryd.ntmps58
    go_wp2
    go_ret
    exact H.out 0
  · have hm1 : (n : Int) - a < m := by omega
    have hd : decide ((n : Int) - a < m) = true := by simpa using hm1
    clear hm
    go_enter Tryd.func58, Tryd.ntmps58
    go_wp2_with (go_at_call 59; refine (rleft_good _ _ _ _ _ _ h ha hn).mono ?_; rintro e w' ⟨rfl, k, rfl⟩)
    go_ret
    exact H.out k

theorem rtake_bad (B g n c a : Nat) (A : Option Addr) (l : List UInt8) (m : Int) (w : World) (h : RefR w g A n c a true) (ha : a ≤ n) (hn : n ≤ 1000000) :
    Calls Tryd.prog 58 #[.pointer (some ⟨g, 0, none⟩), .int .i64 m] w (Took w B g A n c l ((refSt l a true).next m)) := by
  have h0 := h.cell0
  have h1 := h.cell1
  have h2 := h.cell2
  have f2 := h.free 2
  have hst : (refSt l a true).next m = ([], ⟨[], true⟩) := by
    unfold refSt St.next
    simp only [if_true]
    split <;> simp
  have hfin : ∀ k, Took w B g A n c l ((refSt l a true).next m) (.returned (.slice none 0 0)) ((w.drewN k).setCell ⟨g, 2, none⟩ (.bool true)) := by
    intro k
    rw [hst]
    exact ⟨_, _, _, a, true, rfl, Rd.nil_, RefR.put2 (w := w.drewN k) h true, ha, by simp [refSt], setCell_by (w' := w.drewN k) (p := ⟨g, 2, none⟩) (by_drewN (World.grownBy.refl w _) k) rfl _⟩
  have hfin2 : ∀ k, Took w B g A n c l ((refSt l a true).next m) (.returned (.slice none 0 0)) (w.drewN k) := by
    intro k
    rw [hst]
    exact ⟨_, _, _, a, true, rfl, Rd.nil_, h, ha, by simp [refSt], by_drewN (World.grownBy.refl w _) k⟩
  have H := Lib.hid hfin
  have H2 := Lib.hid hfin2
  clear hfin hfin2 hst
  rcases Int.lt_or_le m 0 with hm0 | hm0
  · go_enter Tryd.func58, Tryd.ntmps58
    go_wp2
    go_ret
    exact H.out 0
  · rcases Int.lt_or_le 0 m with hm1 | hm1
    · have hd : decide ((0 : Int) < m) = true := by simpa using hm1
      go_enter Tryd.func58, Tryd.ntmps58
      go_wp2_with (go_at_call 59; refine (rleft_bad _ _ _ _ _ _ h ha hn).mono ?_; rintro e w' ⟨rfl, k, rfl⟩)
      go_ret
      exact H.out k
    · have hd : decide ((0 : Int) < m) = false := by simpa using hm1
      go_enter Tryd.func58, Tryd.ntmps58
      go_wp2_with (go_at_call 59; refine (rleft_bad _ _ _ _ _ _ h ha hn).mono ?_; rintro e w' ⟨rfl, k, rfl⟩)
      go_ret
      exact H2.out k

theorem rtake_any (B g n c a : Nat) (b : Bool) (A : Option Addr) (l : List UInt8) (m : Int) (w : World) (h : RefR w g A n c a b) (hr : Rd w B 1 A n c (u8s l)) (hB : B ≤ g) (ha : a ≤ n) (hn : n ≤ 1000000) :
    Calls Tryd.prog 58 #[.pointer (some ⟨g, 0, none⟩), .int .i64 m] w (Took w B g A n c l ((refSt l a b).next m)) := by
  cases b
  · by_cases hm : 0 ≤ m ∧ m ≤ (n : Int) - a
    · exact rtake_good B g n c a A l m w h hr hB ha hn hm.1 hm.2
    · exact rtake_out B g n c a A l m w h hr ha hn (by omega)
  · exact rtake_bad B g n c a A l m w h ha hn

def Numbered (w : World) (g : Nat) (A : Option Addr) (n c : Nat) (l : List UInt8) (r : Nat × St) (e : Ending) (w' : World) : Prop :=
  ∃ a' b', e = .returned (.int .u64 (r.1 : Int)) ∧ RefR w' g A n c a' b' ∧ a' ≤ n ∧ refSt l a' b' = r.2 ∧ w.grownBy w' (some g)

theorem mul_byte (a : Nat) (b : UInt8) (h : a < 72057594037927936) : IntKind.u64.wrap (IntKind.u64.wrap (256 * (a : Int)) + IntKind.u64.wrap (b.toNat : Int)) = ((b.toNat + 256 * a : Nat) : Int) := by
  have hb := b.toNat_lt
  simp only [IntKind.wrap_u64]
  omega

theorem unle_step' (t : List UInt8) (i : Nat) (x : UInt8) (hi : i < t.length) (hx : t[t.length - 1 - i]? = some x) : unle (t.drop (t.length - (i + 1))) = x.toNat + 256 * unle (t.drop (t.length - i)) := by
  obtain ⟨hlt, rfl⟩ := List.getElem?_eq_some_iff.1 hx
  exact unle_step t i hi hlt
theorem rnum_any (B g n c a : Nat) (b : Bool) (A : Option Addr) (l : List UInt8) (W : Int) (w : World) (h : RefR w g A n c a b) (hr : Rd w B 1 A n c (u8s l)) (hB : B ≤ g) (ha : a ≤ n) (hn : n ≤ 1000000) (h1 : 1 ≤ W) (h8 : W ≤ 8) :
    Calls Tryd.prog 39 #[.pointer (some ⟨g, 0, none⟩), .int .i64 W] w (Numbered w g A n c l ((refSt l a b).num W)) := by
  have hfin : (refSt l a b).num W = (unle ((refSt l a b).next W).1, ((refSt l a b).next W).2) := by unfold St.num; rw [if_pos ⟨h1, h8⟩]
  have hlen := St.next_len (refSt l a b) W
  have hn := rtake_any B g n c a b A l W w h hr hB ha hn
  generalize (refSt l a b).next W = r at *
  obtain ⟨t, s'⟩ := r
  have hlen : t.length ≤ 8 := by rcases hlen with h | h <;> simp_all; omega
  have H := Lib.hid hfin
  have HN := Lib.hid hn
  clear hfin hn
  have hd : decide ((8 : Int) < W) = false := by simp; omega
  go_enter Tryd.func39, Tryd.ntmps39
  go_wp2_with (go_at_call 58; refine (HN.out).mono ?_; rintro e w1 ⟨A', n', c', a', b', rfl, hr', hR, ha', hst, hby⟩; obtain rfl : t.length = n' := by (have := hr'.len; rwa [u8s_len] at this))
  have HST := Lib.hid hst
  clear hst
  go_loop [6, 7] (fun nr ir => ∃ j : Nat, j ≤ t.length ∧ ir = .int .i64 ((t.length : Int) - 1 - j) ∧ nr = .int .u64 ((unle (t.drop (t.length - j)) : Nat) : Int)) (fun _ ir => (intOf ir + 1).toNat)
  case atStart => exact ⟨0, Nat.zero_le _, by go_num, by simp [unle]⟩
  case round =>
    obtain ⟨j, hj, rfl, rfl⟩ := hrel
    by_cases hlt : j < t.length
    · have hlt7 : unle (t.drop (t.length - j)) < 72057594037927936 := Nat.lt_of_lt_of_le (unle_lt _) (Nat.pow_le_pow_right (by decide) (by rw [List.length_drop]; omega) : _ ≤ 256 ^ 7)
      have HL := Lib.hid hlt7
      clear hlt7
      obtain ⟨b0, o, u, rfl, hbl, hu, hc⟩ := hr'.at_ (k := t.length - 1 - j) (by omega)
      obtain ⟨x, hx, rfl⟩ := u8s_get _ _ _ hu
      have HX := Lib.hid hx
      clear hu hx
      go_wp2
      go_round
      case rel => exact ⟨j + 1, by omega, by go_num, by rw [mul_byte _ _ HL.out, unle_step' t j x hlt HX.out]⟩
      case measure => simp [intOf]; omega
    · obtain rfl : j = t.length := by omega
      go_wp2
      go_ret
      rw [H.out]
      exact ⟨a', b', by simp, hR, ha', HST.out, hby⟩

end Go.Proofs.YtacaonlahggdeaaDoor

/- Pieces of one sender: the pure part of ChainMatch; pairs as data. -/
import Derived.Test.YtlpckhjmbfeegaaDh
namespace Go.Proofs.Ytlpckhjmbfeegaa
open Go.RowKit
set_option maxRecDepth 20000
/-- A chain that has the first k of these. -/
def pre (l : List It) (k : Nat) : Cv := ⟨0, 0, l.take k⟩
def whole (l : List It) : Cv := ⟨0, 0, l⟩
theorem pre_last {l : List It} {k : Nat} (h : k ≤ l.length) : (pre l k).last = k := by
  unfold pre Cv.last
  simp only [List.length_take]
  omega
theorem pre_all (l : List It) : pre l l.length = whole l := by unfold pre whole; rw [List.take_length]
theorem pre_tm {l : List It} {k a : Nat} (h : a < k) (hk : k ≤ l.length) {x : It} (hx : l[a]? = some x) : (pre l k).tm (a + 1) = some x.tm := by
  unfold pre Cv.tm Cv.at_
  rw [if_neg (by simp), if_neg (by simp)]
  simp only [Nat.sub_zero, Nat.add_sub_cancel]
  rw [List.getElem?_take, if_pos h, hx]
  rfl
theorem pre_tm_far {l : List It} {k i : Nat} (h : k < i) (hk : k ≤ l.length) : (pre l k).tm i = none := by
  unfold Cv.tm
  rw [if_neg (by show ¬ i = 0; omega), at_far (by rw [pre_last hk]; exact h)]
  rfl
theorem pre_same {l : List It} {k i : Nat} (h : i ≤ k) (hk : k ≤ l.length) : (pre l k).tm i = (whole l).tm i := by
  cases i with
  | zero => rfl
  | succ a =>
    obtain ⟨x, hx⟩ : ∃ x, l[a]? = some x := ⟨_, List.getElem?_eq_getElem (by omega)⟩
    rw [pre_tm (by omega) hk hx, ← pre_all, pre_tm (by omega) (Nat.le_refl _) hx]
theorem whole_tm {l : List It} {i : Nat} (h : i ≤ l.length) : (whole l).tm i = some ((whole l).term i) := by
  unfold Cv.term
  cases i with
  | zero => rfl
  | succ a =>
    obtain ⟨x, hx⟩ : ∃ x, l[a]? = some x := ⟨_, List.getElem?_eq_getElem (by omega)⟩
    rw [← pre_all, pre_tm (by omega) (Nat.le_refl _) hx]
    rfl
theorem pre_differ {l : List It} {k : Nat} (hk : k ≤ l.length) : ∀ (m a : Nat), a ≤ k → a + m ≤ l.length → (pre l k).differ a ((l.drop a).take m) = if a + m ≤ k then none else some (k, (l.drop k).take (a + m - k)) := by
  intro m
  induction m with
  | zero =>
    intro a ha _
    rw [List.take_zero, if_pos (by omega)]
    rfl
  | succ m ih =>
    intro a ha hm
    have hal : a < l.length := by omega
    rw [List.drop_eq_getElem_cons hal, List.take_succ_cons]
    unfold Cv.differ
    by_cases hak : a < k
    · rw [if_pos (pre_tm hak hk (List.getElem?_eq_getElem hal)), ih (a + 1) (by omega) (by omega), show a + 1 + m = a + (m + 1) by omega]
    · obtain rfl : a = k := by omega
      rw [if_neg (by rw [pre_tm_far (by omega) hk]; simp), if_neg (by omega), show a + (m + 1) - a = m + 1 by omega, List.drop_eq_getElem_cons hal, List.take_succ_cons]
/-- What Take makes of a piece of the sender's. -/
theorem pre_take {l : List It} {k prev m : Nat} (hr : up 0 l = true) (h50 : l.length ≤ 50) (hk : k ≤ l.length) (hm : prev + m ≤ l.length) :
    (prev ≤ k → (pre l k).takes prev ((whole l).term prev) ((l.drop prev).take m) = true ∧ (pre l k).take prev ((whole l).term prev) ((l.drop prev).take m) = pre l (max k (prev + m)) ∧ (pre l k).takeTo prev ((l.drop prev).take m) = prev + m) ∧
    (k < prev → (pre l k).takes prev ((whole l).term prev) ((l.drop prev).take m) = false ∧ (pre l k).take prev ((whole l).term prev) ((l.drop prev).take m) = pre l k) := by
  have hlen : ((l.drop prev).take m).length = m := by rw [List.length_take, List.length_drop]; omega
  refine ⟨fun hp => ?_, fun hp => ?_⟩
  · have hmt : (pre l k).meets prev ((whole l).term prev) = true := by
      unfold Cv.meets
      rw [pre_same hp hk, whole_tm (by omega)]
      simp
    have hto : (pre l k).takeTo prev ((l.drop prev).take m) = prev + m := by
      unfold Cv.takeTo
      rw [hlen]
      show max (prev + m) 0 = _
      omega
    have hleft : (pre l k).left prev ((l.drop prev).take m) = if prev + m ≤ k then none else some (k, (l.drop k).take (prev + m - k)) := by
      unfold Cv.left
      show (pre l k).differ (max prev 0) (((l.drop prev).take m).drop (max prev 0 - prev)) = _
      rw [show max prev 0 = prev by omega, Nat.sub_self, List.drop_zero, pre_differ hk m prev hp hm]
    by_cases hc : prev + m ≤ k
    · rw [if_pos hc] at hleft
      refine ⟨?_, ?_, hto⟩
      · unfold Cv.takes; rw [hmt, hleft]; rfl
      · unfold Cv.take; rw [hmt, hleft, show max k (prev + m) = k by omega]; rfl
    · rw [if_neg hc] at hleft
      have hst : (pre l k).stop k ((l.drop k).take (prev + m - k)) = 0 := by
        unfold Cv.stop
        rw [List.length_take, List.length_drop, if_neg (by show ¬ 4096 < k - 0 + _; omega), if_pos ?_]
        rw [term_last (by show 0 ≤ k; omega) (by rw [pre_last hk]; exact Nat.le_refl _)]
        show up (lastT 0 ((l.take k).take (k - 0))) _ = true
        rw [Nat.sub_zero, List.take_take, Nat.min_self]
        have h2 := up_app 0 (l.take k) (l.drop k)
        rw [List.take_append_drop, hr] at h2
        have h3 := h2.symm
        rw [Bool.and_eq_true] at h3
        exact up_take h3.2 _
      have hput : (pre l k).put k ((l.drop k).take (prev + m - k)) = pre l (max k (prev + m)) := by
        unfold Cv.put
        rw [if_pos hst]
        unfold Cv.set pre
        show (⟨0, 0, (l.take k).take (k - 0) ++ (l.drop k).take (prev + m - k)⟩ : Cv) = _
        rw [Nat.sub_zero, List.take_take, Nat.min_self, show max k (prev + m) = k + (prev + m - k) by omega, List.take_add]
      refine ⟨?_, ?_, hto⟩
      · unfold Cv.takes; rw [hmt, hleft]; simp [hst]
      · unfold Cv.take; rw [hmt, hleft]; exact hput
  · have hmt : (pre l k).meets prev ((whole l).term prev) = false := by
      unfold Cv.meets
      rw [pre_tm_far hp hk]
      simp
      exact Nat.zero_le _
    exact ⟨by unfold Cv.takes; rw [hmt]; rfl, by unfold Cv.take; rw [hmt]; rfl⟩
theorem pre_get {l : List It} {k i : Nat} (h1 : 1 ≤ i) (h2 : i ≤ k) (hk : k ≤ l.length) : (pre l k).at_ i = (whole l).at_ i ∧ ((whole l).at_ i).isSome = true := by
  obtain ⟨a, rfl⟩ : ∃ a, i = a + 1 := ⟨i - 1, by omega⟩
  obtain ⟨x, hx⟩ : ∃ x, l[a]? = some x := ⟨_, List.getElem?_eq_getElem (by omega)⟩
  unfold pre whole Cv.at_
  rw [if_neg (by simp)]
  simp only [Nat.sub_zero, Nat.add_sub_cancel]
  rw [List.getElem?_take, if_pos (by omega), if_neg (by simp), hx]
  exact ⟨rfl, rfl⟩
/-- Two bytes. -/
structure P2 where
  a : Nat
  b : Nat
def P2.cells (o : P2) : Array Value := #[.int .u8 (o.a : Int), .int .u8 (o.b : Int)]
theorem P2.size (o : P2) : o.cells.size = 2 := rfl
def P2.lay : Lay P2 2 := ⟨P2.cells, P2.size, fun o _ => o.a < 256 ∧ o.b < 256, fun _ _ _ h _ => h, ⟨0, 0⟩, fun _ => ⟨by decide, by decide⟩⟩
open Go.ChangeShapes Go.WideShapes Go.ChangeAt
theorem P2.of_cells {H : Type} {enc : TypeId × Value → H} {W : World} {n : Nat} {cs : List Value} {y : DataW H × List MemPlace} (hl : cs.length = 2) (h : DataW.trod enc Try.prog W 0 (fun _ => true) true n 54 cs = some y) : ∃ o : P2, cs = o.cells.toList ∧ (o.a < 256 ∧ o.b < 256) := by
  have he : Try.prog.underlying 54 = some (.array 2 5) := Try.underlying54
  have hc : Try.prog.cellsOf 5 = 1 := by kernel_rfl
  obtain ⟨ys, n', _, _, hlen, hyl, hfl⟩ := DataW.trod_array he h
  match cs, hl with
  | [u0, u1], _ =>
    have g0 := hfl 0 (by decide)
    have g1 := hfl 1 (by decide)
    rw [hc, List.getElem?_eq_getElem (by omega)] at g0 g1
    obtain ⟨a, ha, _, wa⟩ := DataW.trod_int Try.underlying5 g0
    obtain ⟨b, hb, _, wb⟩ := DataW.trod_int Try.underlying5 g1
    cases ha
    cases hb
    obtain ⟨a, rfl, qa⟩ := u8_wf wa
    obtain ⟨b, rfl, qb⟩ := u8_wf wb
    exact ⟨⟨a, b⟩, rfl, qa, qb⟩
theorem P2.dec {H : Type} {enc : TypeId × Value → H} {W : World} {r : Reach} {b0 : Nat} {v : Value} {d : DataW H} {p : List MemPlace} (hok : Value.okWide Try.prog W r b0 50 v) (h : DataW.Trod enc Try.prog W 0 (fun _ => true) true 50 v d p) : ∃ (A : Option Addr) (n c : Nat) (os : List P2), v = .slice A n c ∧ Slc P2.lay W A n c os :=
  dec_slc Try.underlying50 (by kernel_rfl) (by decide) (fun _ _ _ hl h => P2.of_cells hl h) hok h
end Go.Proofs.Ytlpckhjmbfeegaa

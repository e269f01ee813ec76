/- A round is sure by a majority; the law's own record of who was heard. -/
import Derived.Test.YtkcpldkdnnhmmaaDonce0
namespace Go.Proofs.Ytkcpldkdnnhmmaa
open Go.RowKit
set_option maxRecDepth 20000

theorem sure_list (t : Dk) (h : t.Ok) : t.sure = Qu.bestOf ((List.range t.n).map t.at_) ((List.range t.n).map t.at_) := by
  unfold Dk.sure Qu.lst
  rw [nset_memb h.n7]
theorem sure_mid (t : Dk) (h : t.Ok) : ∃ (hh : (t.n - 1) / 2 < (Qu.srt64 ((List.range t.n).map t.at_)).length), t.sure = (Qu.srt64 ((List.range t.n).map t.at_))[(t.n - 1) / 2] := by
  have hlen : ((List.range t.n).map t.at_).length = t.n := by simp
  have hl : (Qu.srt64 ((List.range t.n).map t.at_)).length = t.n := by rw [Qu.srt_len, hlen]
  have h1 := h.n1
  have hh : (t.n - 1) / 2 < (Qu.srt64 ((List.range t.n).map t.at_)).length := by rw [hl]; omega
  refine ⟨hh, ?_⟩
  rw [sure_list t h, Qu.best_mid]
  unfold Qu.mid
  rw [if_neg (by rw [hlen]; omega), hlen]
  unfold Qu.S64
  rw [List.toList_toArray]
  simp only [List.getElem!_toArray]
  exact getElem!_pos (Qu.srt64 (List.map t.at_ (List.range t.n))) _ hh
theorem sure_maj (t : Dk) (h : t.Ok) : t.n < 2 * (List.range t.n).countP fun k => decide (t.sure ≤ t.at_ k) := by
  obtain ⟨hh, he⟩ := sure_mid t h
  have hlen : ((List.range t.n).map t.at_).length = t.n := by simp
  have h1 := Qu.mid_yes (Qu.srt_pair ((List.range t.n).map t.at_)) hh
  rw [← he, Qu.cge_perm (Qu.srt_perm _), Qu.srt_len, hlen] at h1
  unfold Qu.cge at h1
  rw [List.countP_map] at h1
  have e : ((fun z => decide (t.sure ≤ z)) ∘ t.at_) = fun k => decide (t.sure ≤ t.at_ k) := rfl
  rw [e] at h1
  have := h.n1
  omega
theorem sure_le (t : Dk) (h : t.Ok) (hr : ∀ k, t.h.getD k 0 ≤ t.round) : t.sure ≤ t.round := by
  obtain ⟨hh, he⟩ := sure_mid t h
  have hm := (Qu.srt_perm ((List.range t.n).map t.at_)).mem_iff.1 (List.getElem_mem hh)
  rw [← he] at hm
  obtain ⟨k, _, hk⟩ := List.mem_map.1 hm
  rw [← hk]
  unfold Dk.at_
  split
  · exact Nat.le_refl _
  · exact hr k
/-- Each node was heard in no round above the last one. -/
def Dk.Hr (t : Dk) : Prop := ∀ k, t.h.getD k 0 ≤ t.round
/-- The law's record is the desk's, but for the desk's own node. -/
def Rec (t : Dk) (H : List Nat) : Prop := H.length = 7 ∧ ∀ k, k < t.n → k ≠ t.self → H.getD k 0 = t.h.getD k 0
theorem getD_set (l : List Nat) (i k x : Nat) (h : i < l.length) : (l.set i x).getD k 0 = if k = i then x else l.getD k 0 := by
  rw [List.getD, List.getD, List.getElem?_set]
  by_cases hk : i = k
  · subst hk
    simp [h]
  · rw [if_neg hk, if_neg (fun e => hk e.symm)]
theorem Hr.hear {t : Dk} (h : t.Hr) (hok : t.Ok) (node : Int) (r : Nat) : (t.hearN node r).Hr := by
  unfold Dk.hearN
  split
  · next hh =>
    unfold Dk.hears at hh
    simp only [Bool.and_eq_true, decide_eq_true_eq] at hh
    obtain ⟨hb, _, hr⟩ := hh
    obtain ⟨k, rfl, hk⟩ := inB_nset hok.n7 node hb
    have h7 := hok.n7
    intro j
    show (t.h.set _ _).getD j 0 ≤ t.round
    rw [Int.toNat_natCast, getD_set _ _ _ _ (by rw [hok.hl]; omega)]
    split
    · exact Nat.max_le.2 ⟨h k, hr⟩
    · exact h j
  · exact h
/-- What the law makes of its record. -/
def recN (t : Dk) (H : List Nat) (node : Int) (r : Nat) : List Nat := if 0 ≤ node ∧ node < (t.n : Int) ∧ r ≤ t.round then H.set node.toNat (max (H.getD node.toNat 0) r) else H
theorem Rec.hear {t : Dk} {H : List Nat} (h : Rec t H) (hok : t.Ok) (node : Int) (r : Nat) : Rec (t.hearN node r) (recN t H node r) := by
  obtain ⟨hn, hself⟩ := (hearN_l t node r).2.2
  have h7 := hok.n7
  have hlH := h.1
  refine ⟨by unfold recN; split <;> simp [hlH], fun k hk hs => ?_⟩
  rw [hn] at hk
  rw [hself] at hs
  have hk7 : k < 7 := by omega
  unfold recN Dk.hearN Dk.hears
  by_cases hc : 0 ≤ node ∧ node < (t.n : Int) ∧ r ≤ t.round
  · rw [if_pos hc]
    obtain ⟨h0, h1, h2⟩ := hc
    obtain ⟨m, rfl⟩ : ∃ m : Nat, node = (m : Int) := ⟨node.toNat, by omega⟩
    rw [Int.toNat_natCast]
    have hm : m < t.n := by omega
    rw [getD_set _ _ _ _ (by omega)]
    by_cases hms : m = t.self
    · rw [if_neg (by omega), if_neg (by simp; intro _ h; omega)]
      exact h.2 k hk hs
    · have hb : Qu.inB (nset t.n) (m : Int) = true := by
        unfold Qu.inB
        rw [Int.toNat_natCast, nset_bit]
        simp
        omega
      have hh : (Qu.inB (nset t.n) (m : Int) && (decide ((m : Int) ≠ (t.self : Int)) && decide (r ≤ t.round))) = true := by rw [hb]; simp; exact ⟨by omega, h2⟩
      rw [if_pos hh]
      show _ = (t.h.set m _).getD k 0
      rw [getD_set _ _ _ _ (by rw [hok.hl]; omega)]
      split
      · next e => subst e; rw [h.2 k hk hs]
      · exact h.2 k hk hs
  · rw [if_neg hc]
    split
    · next hh =>
      exfalso
      simp only [Bool.and_eq_true, decide_eq_true_eq] at hh
      obtain ⟨hb, _, hr⟩ := hh
      obtain ⟨m, rfl, hm⟩ := inB_nset hok.n7 node hb
      exact hc ⟨by omega, by omega, hr⟩
    · exact h.2 k hk hs
theorem Rec.at_ {t : Dk} {H : List Nat} (h : Rec t H) (hok : t.Ok) (k : Nat) (hk : k < t.n) : (H.set t.self t.round).getD k 0 = t.at_ k := by
  have := h.1
  have := hok.n7
  have := hok.sf
  rw [getD_set _ _ _ _ (by omega)]
  unfold Dk.at_
  split
  · rfl
  · next e => exact h.2 k hk e
theorem Rec.own {t : Dk} {H : List Nat} (h : Rec t H) (hok : t.Ok) : Rec t (H.set t.self t.round) := by
  refine ⟨by rw [List.length_set]; exact h.1, fun k hk hs => ?_⟩
  rw [h.at_ hok k hk]
  unfold Dk.at_
  rw [if_neg hs]
/-- A law's desk, and its record. -/
structure Ah (w : World) (B g hb : Nat) (t : Dk) (H : List Nat) (k : Nat) (wr : World) : Prop where
  at_ : At w B g t k wr
  row : wr.heap[hb]? = some (.cells (u64s H).toArray 29 (0, 0))
  lo : w.heap.size ≤ hb
theorem Ah.lt {w wr : World} {B g hb k : Nat} {t : Dk} {H : List Nat} (h : Ah w B g hb t H k wr) : hb < wr.heap.size := (Array.getElem?_eq_some_iff.1 h.row).1
theorem Dg.free {w : World} {B g hb : Nat} {v : Value} {t : Dk} {cs : Array Value} {fr : Nat × Nat} (h : Dg w B g v t) (hr : w.heap[hb]? = some (.cells cs 29 fr)) : ¬ Foot g v hb := by
  intro hf
  rcases hf with rfl | hf
  · rw [h.row] at hr
    have := (Obj.cells.inj (Option.some.inj hr)).2.1
    exact absurd this (by decide)
  · exact own_ne_row h.own hr (by decide) hb hf rfl
theorem Ah.below {w w1 w2 : World} {B g hb k : Nat} {t : Dk} {H : List Nat} (h : Ah w B g hb t H k w1) (hbl : Below w1.heap.size w1 w2) : Ah w B g hb t H k w2 :=
  ⟨h.at_.below hbl, (hbl.block _ h.lt).trans h.row, h.lo⟩
theorem Ah.next {w w1 w2 : World} {B g hb k k' : Nat} {v : Value} {t t2 : Dk} {H : List Nat} (h : Ah w B g hb t H k w1) (hd : Dg w1 B g v t) (m : Mv w1 B g v t2 w2) (hu : Uq t2.l) (hr : t2.round ≤ k') : Ah w B g hb t2 H k' w2 := by
  have ha := h.at_.next hd m hu hr
  obtain ⟨v', _, kk, _⟩ := m
  exact ⟨ha, kk.row h.row (hd.free h.row), h.lo⟩
theorem Ah.put {w w1 : World} {B g hb k : Nat} {t : Dk} {H : List Nat} (h : Ah w B g hb t H k w1) (j x : Nat) : Ah w B g hb t (H.set j x) k (w1.setCell ⟨hb, j, none⟩ (.int .u64 (x : Int))) := by
  obtain ⟨v, hv⟩ := h.at_.desk
  have hk := Keeps.set w1 hb j (.int .u64 (x : Int))
  refine ⟨⟨⟨v, hv.keeps hk (fun i hi e => hv.free h.row (e ▸ hi))⟩, h.at_.uq, h.at_.round, h.at_.lo, Nat.le_trans h.at_.bl hk.size, h.at_.bel.trans (hk.below h.at_.bel.size (fun i e => by rw [e]; exact h.lo))⟩, ?_, h.lo⟩
  rw [heap_setCell_same w1 hb j _ _ _ h.row, List.setIfInBounds_toArray]
  unfold u64s
  rw [List.map_set]
theorem Ah.cell {w w1 : World} {B g hb k : Nat} {t : Dk} {H : List Nat} (h : Ah w B g hb t H k w1) {j : Nat} (hj : j < H.length) : w1.cell? ⟨hb, j, none⟩ = some (.int .u64 ((H.getD j 0 : Nat) : Int)) := by
  rw [cell_of_row w1 hb j _ _ _ h.row, List.getElem?_toArray]
  unfold u64s
  rw [List.getElem?_map, List.getElem?_eq_getElem hj, List.getD, List.getElem?_eq_getElem hj]
  rfl
theorem Ah.step {w wr : World} {B g hb k k' : Nat} {t : Dk} {H : List Nat} (h : Ah w B g hb t H k wr) (hk : k ≤ k') : Ah w B g hb t H k' wr :=
  ⟨⟨h.at_.desk, h.at_.uq, Nat.le_trans h.at_.round hk, h.at_.lo, h.at_.bl, h.at_.bel⟩, h.row, h.lo⟩
/-- How many of k nodes were heard so late. -/
def cntS (t : Dk) (k : Nat) : Nat := (List.range k).countP fun j => decide (t.sure ≤ t.at_ j)
theorem cntS_succ (t : Dk) (k : Nat) : cntS t (k + 1) = cntS t k + if t.sure ≤ t.at_ k then 1 else 0 := by
  unfold cntS
  rw [List.range_succ, List.countP_append, List.countP_singleton]
  by_cases h : t.sure ≤ t.at_ k <;> simp [h]
theorem cntS_le (t : Dk) (k : Nat) : cntS t k ≤ k := by
  have := List.countP_le_length (p := fun j => decide (t.sure ≤ t.at_ j)) (l := List.range k)
  rwa [List.length_range] at this
/-- A row of one's own that is full is its cells. -/
theorem own_full {w : World} {base g n sz : Nat} {e : TypeId} {xs : List Value} (h : w.ownsRow base e sz (.slice (some ⟨g, 0, none⟩) n n) n xs) : w.heap[g]? = some (.cells xs.toArray e (0, 0)) ∧ base ≤ g := by
  obtain ⟨hl, h2⟩ := h
  rcases h2 with ⟨hv, _⟩ | ⟨g', cap, cur, hv, hbg, hg, hnc, hcm, hcs, htake⟩
  · cases hv
  · cases hv
    have : cur.toList = xs := by rw [← htake, List.take_of_length_le (by rw [Array.length_toList]; omega)]
    rw [← this]
    exact ⟨by simpa using hg, hbg⟩
theorem E_u64 : Elem Try.prog 42 29 (.int .u64 0) 1 8 := Elem.mk_ Try.underlying42 (by kernel_rfl) rfl (by decide)
theorem made7 : (madeCells (Value.int .u64 0).cells (7 * 1)).toList = u64s [0, 0, 0, 0, 0, 0, 0] := by kernel_rfl
/-- The law's state between two calls. -/
structure St (w : World) (g hb N S : Nat) (t : Dk) (H : List Nat) (k : Nat) (wr : World) : Prop where
  ah : Ah w g g hb t H k wr
  n : t.n = N
  self : t.self = S
  hr : t.Hr
  rec_ : Rec t H
theorem St.below {w w1 w2 : World} {g hb N S k : Nat} {t : Dk} {H : List Nat} (h : St w g hb N S t H k w1) (hbl : Below w1.heap.size w1 w2) : St w g hb N S t H k w2 := ⟨h.ah.below hbl, h.n, h.self, h.hr, h.rec_⟩
theorem St.first {w w1 w2 : World} {N S : Nat} (h : At w w.heap.size w.heap.size (newDk N S) 0 w1) (hb : Below w1.heap.size w1 w2) (hr : w2.heap[w1.heap.size]? = some (.cells (u64s [0, 0, 0, 0, 0, 0, 0]).toArray 29 (0, 0))) : St w w.heap.size w1.heap.size N S (newDk N S) [0, 0, 0, 0, 0, 0, 0] 0 w2 :=
  ⟨⟨h.below hb, hr, h.bel.size⟩, rfl, rfl, fun k => by
    show ([0, 0, 0, 0, 0, 0, 0] : List Nat).getD k 0 ≤ 0
    rcases Nat.lt_or_ge k 7 with hk | hk
    · match k, hk with
      | 0, _ => exact Nat.le_refl _
      | 1, _ => exact Nat.le_refl _
      | 2, _ => exact Nat.le_refl _
      | 3, _ => exact Nat.le_refl _
      | 4, _ => exact Nat.le_refl _
      | 5, _ => exact Nat.le_refl _
      | 6, _ => exact Nat.le_refl _
    · rw [List.getD, List.getElem?_eq_none (by simpa using hk)]
      exact Nat.le_refl _, rfl, fun _ _ _ => rfl⟩
/-- Behind a call that hears nobody. -/
theorem St.call {w w1 w2 : World} {g hb N S k k' : Nat} {v : Value} {t t2 : Dk} {H : List Nat} (h : St w g hb N S t H k w1) (hd : Dg w1 g g v t) (m : Mv w1 g g v t2 w2) (hu : Uq t2.l) (hr : t2.round ≤ k') (hh : t2.h = t.h) (hn : t2.n = t.n) (hs : t2.self = t.self) (hle : t.round ≤ t2.round) : St w g hb N S t2 H k' w2 :=
  ⟨h.ah.next hd m hu hr, hn.trans h.n, hs.trans h.self, fun j => by rw [hh]; exact Nat.le_trans (h.hr j) hle, h.rec_.1, fun j hj hjs => by rw [hh]; exact h.rec_.2 j (hn ▸ hj) (hs ▸ hjs)⟩
/-- The desk's own node is put down as heard in the last round. -/
theorem St.mine {w w1 : World} {g hb N S k : Nat} {t : Dk} {H : List Nat} (h : St w g hb N S t H k w1) (hok : t.Ok) : St w g hb N S t (H.set S t.round) k (w1.setCell ⟨hb, S, none⟩ (.int .u64 (t.round : Int))) := by
  have := h.ah.put S t.round
  refine ⟨this, h.n, h.self, h.hr, ?_⟩
  rw [← h.self]
  exact h.rec_.own hok
theorem St.heard {w w1 w2 : World} {g hb N S k k' : Nat} {v : Value} {t : Dk} {H : List Nat} {nd : Int} {x : Nat} (h : Ah w g g hb t (recN t H nd x) k w1) (hn : t.n = N) (hs : t.self = S) (hr : t.Hr) (hrec : Rec t H) (hk : k ≤ k') (hd : Dg w1 g g v t) (m : Mv w1 g g v ((t.hearN nd x).wait ((t.hearN nd x).l.filter fun y => !y.upto (t.hearN nd x).sure)) w2) :
    St w g hb N S ((t.hearN nd x).wait ((t.hearN nd x).l.filter fun y => !y.upto (t.hearN nd x).sure)) (recN t H nd x) k' w2 := by
  obtain ⟨e1, e2, e3, e4⟩ := hearN_l t nd x
  exact ⟨h.next hd m ((show Uq (t.hearN nd x).l by rw [e1]; exact h.at_.uq).filter _) (by show (t.hearN nd x).round ≤ k'; rw [e2]; exact Nat.le_trans h.at_.round hk), e3.trans hn, e4.trans hs, Hr.hear hr hd.ok nd x, hrec.hear hd.ok nd x⟩
theorem told_upto (t : Dk) : ∀ y ∈ t.l.filter (Wt.upto t.sure), y.rd ≤ t.sure := fun y hy => by
  have := (List.mem_filter.1 hy).2
  unfold Wt.upto at this
  simp only [Bool.and_eq_true, decide_eq_true_eq] at this
  exact this.2
theorem rec_no {t : Dk} {H : List Nat} {nd : Int} {x : Nat} (h : ¬ (0 ≤ nd ∧ nd < (t.n : Int) ∧ x ≤ t.round)) : recN t H nd x = H := by unfold recN; rw [if_neg h]
theorem rec_yes {t : Dk} {H : List Nat} {k x : Nat} (h1 : k < t.n) (h2 : x ≤ t.round) : recN t H (k : Int) x = H.set k (max (H.getD k 0) x) := by
  unfold recN
  rw [if_pos ⟨by omega, by omega, h2⟩, Int.toNat_natCast]
theorem drewN_below (w : World) (n : Nat) : Below w.heap.size w (w.drewN n) := ⟨rfl, rfl, rfl, Nat.le_refl _, fun _ _ => rfl⟩
theorem St.step {w wr : World} {g hb N S k k' : Nat} {t : Dk} {H : List Nat} (h : St w g hb N S t H k wr) (hk : k ≤ k') : St w g hb N S t H k' wr := ⟨h.ah.step hk, h.n, h.self, h.hr, h.rec_⟩
theorem read_keeps (t : Dk) (c r f k : Nat) : (t.read c r f k).h = t.h ∧ (t.read c r f k).n = t.n ∧ (t.read c r f k).self = t.self := by
  unfold Dk.read
  split <;> exact ⟨rfl, rfl, rfl⟩
end Go.Proofs.Ytkcpldkdnnhmmaa

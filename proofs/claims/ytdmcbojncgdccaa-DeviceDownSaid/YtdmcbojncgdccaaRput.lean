/- The reference device: what is put. -/
import Derived.Test.YtdmcbojncgdccaaRdev
namespace Go.Proofs.Ytdmcbojncgdccaa
open Go.RowKit

theorem E_rch : Elem Try.prog 55 79 (.agg #[.int .i64 0, .string ⟨#[]⟩]) 2 24 := Elem.mk_ Try.underlying55 (by kernel_rfl) rfl (by decide)
theorem rd_rch {w : World} {g : Nat} {e : TypeId} {p : Int × List UInt8} (h : w.heap[g]? = some (.cells #[.int .i64 p.1, .string (str p.2)] e (0, 0))) : Rd w w.heap.size 2 (some ⟨g, 0, none⟩) 1 1 (rch p) :=
  ⟨Nat.le_refl _, by unfold maxLen; omega, rfl, fun _ => ⟨g, 0, rfl, (Array.getElem?_eq_some_iff.1 h).1, fun j u hu => by
    rw [cell_of_row w g (0 + j) _ e (0, 0) h, Nat.zero_add]
    simpa [rch] using hu⟩⟩
theorem rch_one (p : Int × List UInt8) : ∀ u ∈ rch p, u.oneCell' = true := by
  have := rchs_one [p]
  simpa [rchs] using this
theorem rch_src (w : World) (e : TypeId) (p : Int × List UInt8) : Src Try.prog 2 55 (.slice (some ⟨w.heap.size, 0, none⟩) 1 1) 1 (rch p) (w.alloc (.cells #[.int .i64 p.1, .string (str p.2)] e)) :=
  (rd_rch (heap_alloc_new w _)).src Try.underlying55 (rch_one p)
def Rv.kept (r : Rv) (x : Int) : List (Int × List UInt8) := r.safe.filter (fun p => decide (p.1 ≠ x))
def Rv.put (r : Rv) (x : Int) (s : List UInt8) : Rv := { r with safe := r.kept x ++ [(x, s)] }
theorem Rv.kept_le (r : Rv) (x : Int) : (r.kept x).length ≤ r.safe.length := List.length_filter_le _ _
theorem Rv.Ok.put {r : Rv} (h : r.Ok) (x : Int) (s : List UInt8) (hs : s.length = 64) : (r.put x s).Ok := ⟨h.n, (fun p hp => by
  rcases List.mem_append.1 hp with hp | hp
  · exact h.safe p (List.mem_filter.1 hp).1
  · obtain rfl := List.mem_singleton.1 hp; exact hs), h.loose, h.fuse⟩
def keepTo (l : List (Int × List UInt8)) (x : Int) (m : Nat) : List (Int × List UInt8) := (l.take m).filter (fun p => decide (p.1 ≠ x))
theorem keepTo_step (l : List (Int × List UInt8)) (x : Int) (m : Nat) (p : Int × List UInt8) (h : l[m]? = some p) : keepTo l x (m + 1) = if p.1 = x then keepTo l x m else keepTo l x m ++ [p] := by
  obtain ⟨hl, rfl⟩ := List.getElem?_eq_some_iff.1 h
  unfold keepTo
  rw [List.take_succ_eq_append_getElem hl, List.filter_append]
  by_cases hx : (l[m]).1 = x <;> simp [hx]
theorem keepTo_le (l : List (Int × List UInt8)) (x : Int) (m : Nat) : (keepTo l x m).length ≤ l.length := Nat.le_trans (List.length_filter_le _ _) (by rw [List.length_take]; omega)

set_option maxHeartbeats 4000000 in
set_option maxRecDepth 8000 in
theorem rput_any {w : World} {B q : Nat} {vs vl : Value} {r : Rv} (h : Rdev w B q vs vl r) (hn : r.safe.length ≤ 1000000000) (x : Int) (s : List UInt8) (hs : s.length = 64) :
    Calls Try.prog 45 #[.pointer (some ⟨q, 0, none⟩), .int .i64 x, .string (str s)] w fun e w' => e = .returned (.tuple #[]) ∧ ∃ vs', Rdev w' B q vs' vl (r.put x s) ∧ Keeps (fun i => i = q) w w' ∧ ∀ k, vs'.ownBlock = some k → w.heap.size ≤ k := by
  obtain ⟨A, c, rfl, hr⟩ := owns_slice h.safe
  obtain ⟨n, hnl⟩ : ∃ n, n = r.safe.length := ⟨_, rfl⟩
  rw [← hnl] at hr
  have hql := h.lt
  have hc1 : w.cell? ⟨q, 1, none⟩ = some (.slice A n c) := by rw [hnl]; exact h.c1
  have HC1 := Lib.hid hc1
  have hni : (n : Int) ≤ 1000000000 := by omega
  have HH := Lib.hid h
  have HR := Lib.hid hr
  have HN := Lib.hid hn
  have HNL := Lib.hid hnl
  have HS := Lib.hid hs
  clear h hr hn hs hc1 hnl
  go_enter Try.func45, Try.ntmps45
  go_wp2
  go_loopw [6, 7] (fun vr ir wr => ∃ m : Nat, m ≤ n ∧ ir = .int .i64 (m : Int) ∧ wr.ownsRow w.heap.size 79 2 vr (keepTo r.safe x m).length (rchs (keepTo r.safe x m)) ∧ Below w.heap.size w wr) (fun _ ir _ => n - (intOf ir).toNat)
  case atStart => exact ⟨0, Nat.zero_le _, rfl, World.ownsRow_nil _ _ _ _, Below.refl _ _⟩
  case round =>
    obtain ⟨m, hm, rfl, hown, hb⟩ := hrel
    have c1 : wr.cell? ⟨q, 1, none⟩ = some (.slice A n c) := (hb.cell (p := ⟨q, 1, none⟩) hql).trans HC1.out
    have hkl := keepTo_le r.safe x m
    have hmi : (m : Int) ≤ 1000000000 := by omega
    by_cases hlt : m < n
    · obtain ⟨p, hp⟩ : ∃ p, r.safe[m]? = some p := ⟨_, List.getElem?_eq_getElem (by have := HNL.out; omega)⟩
      obtain ⟨h1, h2⟩ := rchs_get r.safe m p hp
      have hrr := HR.out.below hb
      obtain ⟨b, o, rfl, hbb, hcc⟩ := hrr.2.2.2 (by omega)
      have k1 : wr.cell? ⟨b, o + m * 2, none⟩ = some (.int .i64 p.1) := by rw [Nat.mul_comm m 2]; exact hcc _ _ h1
      have k2 : wr.cell? ⟨b, o + m * 2 + 1, none⟩ = some (.string (str p.2)) := by rw [Nat.mul_comm m 2]; exact hcc _ _ h2
      have hst := keepTo_step r.safe x m p hp
      have hlti : (m : Int) < (n : Int) := by omega
      by_cases hx : p.1 = x
      · rw [if_pos hx] at hst
        have hbx : ((p.1 != x) : Bool) = false := by simpa using hx
        have HST := Lib.hid hst
        have HO := Lib.hid hown
        have HB := Lib.hid hb
        clear hst hx hown hb hrr hcc h1 h2 hp
        go_wp2
        go_roundw
        case rel => exact ⟨m + 1, by omega, by go_num, by rw [HST.out]; exact HO.out, HB.out⟩
        case measure => simp [intOf]; omega
      · rw [if_neg hx] at hst
        have hbx : ((p.1 != x) : Bool) = true := by simpa using hx
        have HST := Lib.hid hst
        have HO := Lib.hid hown
        have HB := Lib.hid hb
        have HKL := Lib.hid hkl
        clear hst hx hown hb hrr hcc h1 h2 hp hkl
        go_wp2_with (first
          | (at_builtin; refine wpL_app (m := 1) (y := .slice (some ⟨wr.heap.size, 0, none⟩) 1 1) rfl (.tmp 27) (.tmp 35) _ _ rfl E_rch rfl rfl (HO.out.alloc _) (rch_src wr _ p) (by have := HKL.out; have := HN.out; unfold maxLen; omega) (by have := HKL.out; have := HN.out; omega) (Nat.le_trans HB.out.size (by simp)) ?_; intro v2 w2 hown2 hg2 hat2)
          | fail)
        have hg2' : (wr.alloc (.cells #[.int .i64 p.1, .string (str p.2)] 79)).grownBy w2 u6.ownBlock := hg2
        have hb2 : Below w.heap.size w w2 := (HB.out.alloc HB.out.size _).grown hg2' (Nat.le_trans HB.out.size (by simp)) (fun k e => (HO.out.lt k e).1)
        go_roundw
        case rel => exact ⟨m + 1, by omega, by go_num, by rw [HST.out, rchs_snoc, List.length_append]; exact hown2, hb2⟩
        case measure => simp [intOf]; omega
    · obtain rfl : m = n := by omega
      have HO := Lib.hid hown
      have HB := Lib.hid hb
      have HKL := Lib.hid hkl
      clear hown hb hkl
      go_wp2_with (first
          | (at_builtin; refine wpL_app (m := 1) (y := .slice (some ⟨wr.heap.size, 0, none⟩) 1 1) rfl (.tmp 38) (.tmp 42) _ _ rfl E_rch rfl rfl (HO.out.alloc _) (rch_src wr _ (x, s)) (by have := HKL.out; have := HN.out; unfold maxLen; omega) (by have := HKL.out; have := HN.out; omega) (Nat.le_trans HB.out.size (by simp)) ?_; intro v2 w2 hown2 hg2 hat2
             have hg2' : (wr.alloc (.cells #[.int .i64 x, .string (str s)] 79)).grownBy w2 u6.ownBlock := hg2
             have hb2 : Below w.heap.size w w2 := (HB.out.alloc HB.out.size _).grown hg2' (Nat.le_trans HB.out.size (by simp)) (fun k e => (HO.out.lt k e).1)
             obtain ⟨A3, c3, rfl⟩ := ownsRow_form hown2
             have hrow2 := (hb2.block q hql).trans HH.out.row
             have e1 : w2.cell? ⟨q, 1, none⟩ = some (.slice A m c) := (hb2.cell (p := ⟨q, 1, none⟩) hql).trans HC1.out
             have f1 := frozen_of_row w2 q 1 _ _ hrow2
             have HB2 := Lib.hid hb2
             have HRW := Lib.hid hrow2
             have HOW := Lib.hid hown2
             clear hb2 hrow2 hg2 hg2' hat2 hown2)
          | fail)
      have hkt : keepTo r.safe x m = r.kept x := by unfold keepTo Rv.kept; rw [List.take_of_length_le (by have := HNL.out; omega)]
      have hown2 := HOW.out
      rw [hkt] at hown2
      have hgq := setCell_grows w2 q 1 (.slice A3 ((keepTo r.safe x m).length + 1) c3)
      have hvl := hown2.lt
      have hr3 := set_row HRW.out 1 (.slice A3 ((keepTo r.safe x m).length + 1) c3)
      have hKq : Keeps (fun i => i = q) w (w2.setCell ⟨q, 1, none⟩ (.slice A3 ((keepTo r.safe x m).length + 1) c3)) := (Keeps.of_below HB2.out).grown hgq (fun k e => .inl (Option.some.inj e).symm)
      rw [hkt] at hgq hr3 hKq
      have hfin : Rdev (w2.setCell ⟨q, 1, none⟩ (.slice A3 ((r.kept x).length + 1) c3)) B q (.slice A3 ((r.kept x).length + 1) c3) vl (r.put x s) := by
        refine ⟨hr3, ?_, ownsRow_kp HH.out.loose hKq (fun i hi => HH.out.ql i hi), ?_, HH.out.ql, ?_, HH.out.hq, HH.out.ok.put x s HS.out⟩
        · have e : (r.put x s).safe.length = (r.kept x).length + 1 := by unfold Rv.put; simp
          have e2 : rchs (r.put x s).safe = rchs (r.kept x) ++ rch (x, s) := rchs_snoc _ _
          rw [e, e2]
          refine ownsRow_low (hown2.kept hgq ?_) (Nat.le_trans HH.out.hq (Nat.le_of_lt hql))
          cases hk : Value.ownBlock (.slice A3 ((r.kept x).length + 1) c3) with
          | none => exact .inl rfl
          | some k => exact .inr (fun e => by have := (hvl k hk).1; have := Option.some.inj e; omega)
        · intro k hk e
          have := (hvl k hk).1
          omega
        · intro k hk e
          have h1 := (hvl k hk).1
          have h2 := (HH.out.loose.lt k e).2
          omega
      rw [hkt]
      go_returns
      exact ⟨rfl, _, hfin, hKq, fun k hk => (hvl k hk).1⟩

end Go.Proofs.Ytdmcbojncgdccaa

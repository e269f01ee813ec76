/- Best's closure: is an entry better than the best so far? -/
import Derived.Test.YtenloljcaolkfaaMkit
namespace Go.Proofs.Ytenloljcaolkfaa
open Go.RowKit
set_option maxRecDepth 20000

set_option maxHeartbeats 4000000 in
theorem better_any {w : World} {A : Option Addr} {n c : Nat} {Ls : List Li} (h : Slc Li.lay w A n c Ls) (x : En) (hx : x.Reads w) (ix : Nat) (_ : ix < 18446744073709551616) (o : Option En) (ho : (curE o).Reads w) (p2 p3 p6 p7 : Nat)
    (h2 : w.heap[p2]? = some (.cells #[.int .u64 (ix : Int)] 22 (0, 0))) (h3 : w.heap[p3]? = some (.cells #[.slice A n c] 29 (0, 0))) (h6 : ERow w p6 (curE o)) (h7 : w.heap[p7]? = some (.cells #[.bool o.isSome] 4 (0, 0))) :
    Calls Try.prog 50 #[.agg x.cells, .pointer (some ⟨p2, 0, none⟩), .pointer (some ⟨p7, 0, none⟩), .pointer (some ⟨p6, 0, none⟩), .pointer (some ⟨p3, 0, none⟩)] w fun r w' => r = .returned (.bool (btr (vd (flat Ls)) ix o x)) ∧ Below w.heap.size w w' := by
  obtain ⟨W, hW, hz, r0, hb⟩ := boxes1 w x.cells 55
  have HV := Lib.hid (void_any (h.below hb) x (hx.below hb))
  have HB := Lib.hid hb
  have c2 := cell_of_row W p2 0 _ _ _ (row_below h2 hb)
  have c3 := cell_of_row W p3 0 _ _ _ (row_below h3 hb)
  have c6 := cell_of_row W p6 1 _ _ _ (row_below h6 hb)
  have c7 := cell_of_row W p7 0 _ _ _ (row_below h7 hb)
  have hbt : btr (vd (flat Ls)) ix o x = (decide (x.ix = ix) && ((!o.isSome || decide ((curE o).tm < x.tm)) && !(vd (flat Ls) x))) := by
    unfold btr curE
    cases o <;> simp
  rw [hbt]
  clear hbt h hx h2 h3 h6 h7 hb r0 hz
  have hc : (curE o).cells[1]? = some (.int .u64 ((curE o).tm : Int)) := rfl
  rw [hc] at c6
  clear hc
  generalize vd (flat Ls) x = T at *
  generalize o.isSome = B at *
  generalize (curE o).tm = tb at *
  clear ho
  obtain ⟨ixx, tm, st, kd, cl, rq, fr, ct, da, A1, bn, bc, ls⟩ := x
  unfold En.cells at *
  dsimp only at *
  subst hW
  by_cases hi : ixx = ix
  · subst hi
    cases B
    · go_enter Try.func50, Try.ntmps50
      go_wp2_with (first
        | (go_at_call 51; refine HV.out.mono ?_; rintro e w1 ⟨rfl, hb1⟩)
        | fail)
      go_ret
      exact ⟨ret_bool (by cases T <;> simp), HB.out.trans (hb1.mono HB.out.size)⟩
    · by_cases ht : tb < tm
      · have q : decide (tb < tm) = true := by simpa using ht
        go_enter Try.func50, Try.ntmps50
        go_wp2_with (first
          | (go_at_call 51; refine HV.out.mono ?_; rintro e w1 ⟨rfl, hb1⟩)
          | fail)
        go_ret
        exact ⟨ret_bool (by cases T <;> simp [ht]), HB.out.trans (hb1.mono HB.out.size)⟩
      · have q : decide (tb < tm) = false := by simpa using ht
        go_enter Try.func50, Try.ntmps50
        go_wp2
        go_ret
        exact ⟨ret_bool (by simp [ht]), HB.out⟩
  · have q : ((ixx : Int) == (ix : Int)) = false := by simp; omega
    go_enter Try.func50, Try.ntmps50
    go_wp2
    go_ret
    exact ⟨ret_bool (by simp [hi]), HB.out⟩
end Go.Proofs.Ytenloljcaolkfaa

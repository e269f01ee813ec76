/- Add; the closure of Take. -/
import Derived.Test.YtlpckhjmbfeegaaCe
import Derived.Test.YtlpckhjmbfeegaaScope
namespace Go.Proofs.Ytlpckhjmbfeegaa
open Go.RowKit
set_option maxRecDepth 20000
section
variable {w w' w1 : World} {B g : Nat} {v : Value} {t : Cv}
theorem add_any (h : Ck w B g v t) (hB : B ≤ w.heap.size) {A : Option Addr} {n c : Nat} {l : List It} (hl : Beside w g v A n c l) (hbd : t.last + n < 9000000000000000000) :
    Calls Try.prog 13 #[.pointer (some ⟨g, 0, none⟩), .slice A n c] w (Puts w B g v t t.last l) := by
  have HP := Lib.hid (put_any h hB t.last (by unfold Cv.last; omega) (Nat.le_refl _) hl hbd)
  have HL := Lib.hid (last_any h)
  clear h hB hl hbd
  unfold Puts at HP ⊢
  generalize t.stop t.last l = st at *
  go_enter Try.func13, Try.ntmps13
  go_wp2_with (first
    | (go_at_call 21; refine HL.out.mono ?_; rintro e w2 ⟨rfl, rfl⟩)
    | (go_at_call 41; refine HP.out.mono ?_; rintro e w2 ⟨rfl, hm⟩; have HM := Lib.hid hm; clear hm)
    | fail)
  go_ret
  exact ⟨rfl, HM.out⟩
def Enters (F : FuncId) : Prop := ∀ (args : Array Value) (w : World), (callFunc F args).run Try.prog w = .ok (.enter F args) w
theorem enters_of {F : FuncId} {fn : Func} (hf : Try.prog.funcs[F]? = some fn) (hb : fn.body.isNone = false) (hn : (fn.name == "runtime.NumGoroutine") = false) : Enters F := by
  intro args w
  have hn' : ¬ fn.name = "runtime.NumGoroutine" := by simpa using hn
  have hb' : ¬ fn.body = none := by intro e; rw [e] at hb; cases hb
  simp [callFunc, go_sem, hf, hb', hn']
theorem enters_t : Enters 44 := enters_of Try.func44 rfl (by decide)
theorem same_any (h : Ck w B g v t) {A : Option Addr} {n c : Nat} {l : List It} (hl : Rd w w.heap.size 3 A n c (its l)) (hn : l.length = n) (hf : n ≤ 5000) {p0 p1 p2 prev j : Nat} {x : It} (hx : l[j]? = some x) (hi : prev + 1 + j < 9100000000000000000)
    (b0 : w.cell? ⟨p0, 0, none⟩ = some (.pointer (some ⟨g, 0, none⟩))) (b1 : w.cell? ⟨p1, 0, none⟩ = some (.slice A n c)) (b2 : w.cell? ⟨p2, 0, none⟩ = some (.int .u64 (prev : Int))) :
    Calls Try.prog 44 #[.int .u64 ((prev + 1 + j : Nat) : Int), .pointer (some ⟨p0, 0, none⟩), .pointer (some ⟨p1, 0, none⟩), .pointer (some ⟨p2, 0, none⟩)] w fun e w' => e = .returned (.bool (decide (t.tm (prev + 1 + j) = some x.tm))) ∧ Below w.heap.size w w' := by
  have HT := Lib.hid (term_any h (prev + 1 + j))
  have hjn : j < n := by have := (List.getElem?_eq_some_iff.1 hx).1; omega
  obtain ⟨b, o, rfl, hbb, e0, e1, e2⟩ := hl.item hn hx
  have hlt := World.block_lt_of_cell? w _ b1
  have hlt2 := World.block_lt_of_cell? w _ b2
  obtain ⟨xt, xk, xx⟩ := x
  dsimp only at *
  unfold Termed at HT
  obtain ⟨i, hi2⟩ : ∃ i, i = prev + 1 + j := ⟨_, rfl⟩
  rw [← hi2] at HT ⊢
  have u1 : (i : Int) - (prev : Int) = (j : Int) + 1 := by omega
  have u2 : IntKind.u64.wrap ((i : Int) - (prev : Int)) = (j : Int) + 1 := by rw [u64w _ (by omega) (by omega)]; omega
  have hjI : (j : Int) < (n : Int) := by omega
  have hj5 : (j : Int) ≤ 5000 := by omega
  generalize t.tm i = ot at *
  clear h hl hx hi2
  rcases ot with _ | own
  · have q3 : decide ((none : Option Nat) = some xt) = false := by simp
    rw [q3]
    clear q3
    simp only [Option.getD_none, Option.isSome_none] at HT
    go_enter Try.func44, Try.ntmps44
    go_wp2_with (first
      | (go_at_call 23; refine HT.out.mono ?_; rintro e w2 ⟨rfl, hb2⟩; have HB2 := Lib.hid hb2; clear hb2)
      | fail)
    go_ret
    exact ⟨rfl, HB2.out⟩
  · simp only [Option.getD_some, Option.isSome_some] at HT
    by_cases y2 : own = xt
    · subst y2
      have q3 : decide (some own = some own) = true := by simp
      rw [q3]
      clear q3
      go_enter Try.func44, Try.ntmps44
      go_wp2_with (first
        | (go_at_call 23; refine HT.out.mono ?_; rintro e w2 ⟨rfl, hb2⟩; have HB2 := Lib.hid hb2
           have f0 := (hb2.cell (p := ⟨b, o + j * 3, none⟩) hbb).trans e0
           have f1 := (hb2.cell (p := ⟨p1, 0, none⟩) hlt).trans b1
           have f2 := (hb2.cell (p := ⟨p2, 0, none⟩) hlt2).trans b2
           clear hb2)
        | fail)
      go_ret
      exact ⟨rfl, HB2.out⟩
    · have q3 : decide (some own = some xt) = false := by simpa using y2
      rw [q3]
      clear q3
      have q6 : ((own : Int) == (xt : Int)) = false := by simp; omega
      have q7 : decide ((own : Int) = (xt : Int)) = false := by simp; omega
      have q8 : decide (own = xt) = false := by simpa using y2
      go_enter Try.func44, Try.ntmps44
      go_wp2_with (first
        | (go_at_call 23; refine HT.out.mono ?_; rintro e w2 ⟨rfl, hb2⟩; have HB2 := Lib.hid hb2
           have f0 := (hb2.cell (p := ⟨b, o + j * 3, none⟩) hbb).trans e0
           have f1 := (hb2.cell (p := ⟨p1, 0, none⟩) hlt).trans b1
           have f2 := (hb2.cell (p := ⟨p2, 0, none⟩) hlt2).trans b2
           clear hb2)
        | fail)
      go_ret
      exact ⟨rfl, HB2.out⟩
end
end Go.Proofs.Ytlpckhjmbfeegaa

/- Write: a write comes to wait. -/
import Derived.Test.YtkcpldkdnnhmmaaDr
namespace Go.Proofs.Ytkcpldkdnnhmmaa
open Go.RowKit
set_option maxRecDepth 20000

/-- append at its operation, in a drawn region. -/
theorem wp_app {P : Program} {w : World} {o : Oper} {a : Act} {K : Act → World → Prop} {Q : Exit → Act → World → Prop} (s x : Operand) (t tx : TypeId)
    (ho : o.op = .call { callee := .builtin .append, args := #[s, x], argTypes := #[t, tx] })
    {base m n sz bt : Nat} {e : TypeId} {z v y : Value} {xs news : List Value} (hT : Elem P t e z sz bt) (hs : a.eval s = v) (hx : a.eval x = y) (hown : w.ownsRow base e sz v n xs) (hsrc : Src P sz tx y m news w)
    (h63 : n + m ≤ maxLen) (hbytes : (n + m) * bt ≤ 140737488355328) (hbase : base ≤ w.heap.size)
    (h : ∀ v' w', w'.ownsRow base e sz v' (n + m) (xs ++ news) → w.grownBy w' v.ownBlock → (v'.ownBlock = v.ownBlock ∨ v'.ownBlock = some w.heap.size) → K (a.put o.dst v') w') : o.wp P a w K Q := by
  obtain ⟨v', w', hr, h1, h2, h3⟩ := run_app (ty := o.type) hT hown hsrc h63 hbytes hbase
  unfold Oper.wp execOp
  simp only [ho, resolve, invoke, builtin, Sem.run_bind, Sem.run_pure, Result.andThen_ok, List.map_toArray, List.map_cons, List.map_nil, hs, hx, hr]
  exact h v' w' h1 h2 h3
/-- Of whom a call tells the first one, or -1. -/
def Found (b : Bool) (w : World) (r : Ending) (w' : World) : Prop := ∃ k : Int, r = .returned (.int .i64 k) ∧ decide (0 ≤ k) = b ∧ Below w.heap.size w w'
set_option maxHeartbeats 4000000 in
theorem index_any {w : World} {A : Option Addr} {n c : Nat} {l : List Wt} {F : FuncId} {caps : Array Value} {p : Wt → Bool} (h : Rd w w.heap.size 6 A n c (wts l)) (hl : l.length = n) (hn : n ≤ 1000) (hF : Tells w F caps p l) (hE : Enters F) :
    Calls Try.prog 49 #[.slice A n c, .func (.func F) #[] caps] w (Found (l.any p) w) := by
  have HH := Lib.hid h
  have HF := Lib.hid hF
  have HL := Lib.hid hl
  have HE := Lib.hid hE
  clear h hF hl hE
  go_enter Try.func49, Try.ntmps49
  go_wp2
  go_loopw [5, 8] (fun _ ir wr => ∃ (i : Nat), i ≤ n ∧ ir = .int .i64 (i : Int) ∧ Hid ((l.take i).any p = false) ∧ Below w.heap.size w wr) (fun _ ir _ => n - (intOf ir).toNat)
  case atStart => exact ⟨0, Nat.zero_le _, rfl, Lib.hid rfl, Below.refl _ _⟩
  case round =>
    obtain ⟨i, hi, rfl, HN, hb⟩ := hrel
    have HB := Lib.hid hb
    clear hb
    by_cases hlt : i < n
    · obtain ⟨x, hx⟩ : ∃ x, l[i]? = some x := ⟨_, List.getElem?_eq_getElem (by have := HL.out; omega)⟩
      obtain ⟨b, o, rfl, hbb, hcc⟩ := HH.out.2.2.2 (by omega)
      have hce := fun j u (hu : x.cells[j]? = some u) => (HB.out.cell (p := ⟨b, o + (i * 6 + j), none⟩) hbb).trans (hcc _ _ (wts_get l i x hx j u hu))
      have HC := Lib.hid (HF.out wr HB.out x (List.mem_of_getElem? hx))
      have HT : Hid ((l.take (i + 1)).any p = p x) := Lib.hid (by rw [List.take_add_one, hx, List.any_append, HN.out]; simp)
      have HY : Hid (p x = true → l.any p = true) := Lib.hid (fun h => List.any_eq_true.2 ⟨x, List.mem_of_getElem? hx, h⟩)
      generalize p x = T at *
      have hlti : (i : Int) < (n : Int) := by omega
      have hin : (i : Int) ≤ 1000 := by omega
      clear hcc hx
      obtain ⟨cl, rq, ix, fr, ct, rd⟩ := x
      unfold Wt.v Wt.cells at *
      dsimp only at *
      have k0 := hce 0 _ rfl
      have k1 := hce 1 _ rfl
      have k2 := hce 2 _ rfl
      have k3 := hce 3 _ rfl
      have k4 := hce 4 _ rfl
      have k5 := hce 5 _ rfl
      try dsimp only at k0 k1 k2 k3 k4 k5
      simp only [← Nat.add_assoc, Nat.add_zero] at k0 k1 k2 k3 k4 k5
      clear hce
      cases T
      · go_wp2_with (first
          | (rw [HE.out, Oper.upon_enter]; refine HC.out.mono ?_; rintro e w1 ⟨rfl, hb1⟩)
          | fail)
        go_roundw
        case rel => exact ⟨i + 1, by omega, by go_num, HT, HB.out.trans (hb1.mono HB.out.size)⟩
        case measure => simp [intOf]; omega
      · go_wp2_with (first
          | (rw [HE.out, Oper.upon_enter]; refine HC.out.mono ?_; rintro e w1 ⟨rfl, hb1⟩)
          | fail)
        go_ret
        exact ⟨_, rfl, by rw [HY.out (by trivial)]; simp, HB.out.trans (hb1.mono HB.out.size)⟩
    · obtain rfl : i = n := by omega
      have HF := Lib.hid HN.out
      rw [List.take_of_length_le (by have := HL.out; omega)] at HF
      go_wp2
      go_ret
      exact ⟨_, rfl, by rw [HF.out]; rfl, HB.out⟩
theorem contains_any {w : World} {A : Option Addr} {n c : Nat} {l : List Wt} {F : FuncId} {caps : Array Value} {p : Wt → Bool} (h : Rd w w.heap.size 6 A n c (wts l)) (hl : l.length = n) (hn : n ≤ 1000) (hF : Tells w F caps p l) (hE : Enters F) :
    Calls Try.prog 35 #[.slice A n c, .func (.func F) #[] caps] w fun e w' => e = .returned (.bool (l.any p)) ∧ Below w.heap.size w w' := by
  have HI := Lib.hid (index_any h hl hn hF hE)
  clear h hl hn hF hE
  go_enter Try.func35, Try.ntmps35
  go_wp2_with (first
    | (go_at_call 49; refine HI.out.mono ?_; rintro e w1 ⟨k, rfl, hk, hb1⟩)
    | fail)
  go_ret
  exact ⟨by first | rfl | exact Qu.ret_bool hk, hb1⟩
def Dk.wrE (t : Dk) (c r i : Nat) : Int := if i = 0 then 2 else if t.l.any (Wt.wr c r) = true then 0 else if t.full = true then 53 else 0
def Dk.write (t : Dk) (c r i : Nat) : Dk := if i = 0 then t else if t.l.any (Wt.wr c r) = true then t else if t.full = true then t else t.wait (t.l ++ [⟨c, r, i, 0, 0, 0⟩])
theorem enters_w : Enters 31 := enters_of Try.func31 rfl (by decide)
theorem enters_r : Enters 38 := enters_of Try.func38 rfl (by decide)
theorem enters_h : Enters 40 := enters_of Try.func40 rfl (by decide)
theorem enters_a : Enters 41 := enters_of Try.func41 rfl (by decide)
end Go.Proofs.Ytkcpldkdnnhmmaa

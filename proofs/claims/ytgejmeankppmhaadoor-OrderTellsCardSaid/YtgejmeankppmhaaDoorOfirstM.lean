/- What is near, and light: OrderTells' guards. Ready's closure, and the first entry of each index that counts. -/
import Derived.Test.YtgejmeankppmhaaDoorBlightM
import Derived.Test.YtgejmeankppmhaaDoorOmapM
namespace Go.Proofs.YtgejmeankppmhaaDoor.Bh
open Go.RowKit

def Fit22 (es : List En) : Prop := es.length ≤ 40 ∧ ∀ e ∈ es, e.fits
theorem light22 {w : World} {A : Option Addr} {n c : Nat} {es : List En} (h : Ents w A n c es) :
    Calls Tryd.prog 5 #[.slice A n c] w (LAns w (Fit22 es)) := by
  have hcap := h.rd.2.1
  have hnc := h.rd.1
  have hnm : (n : Int) ≤ 9223372036854775807 := by unfold maxLen at hcap; omega
  have HH := Lib.hid h
  have hlen := h.len
  clear hcap hnc
  by_cases h40 : n ≤ 40
  · have q1 : ((n : Int) ≤ 40) := by omega
    clear h
    go_enter Tryd.func5, Tryd.ntmps5
    go_wp2_with (first
      | (go_at_call 22; refine (light10 HH.out).mono ?_; rintro e w1 ⟨b1, rfl, hf1, hb1⟩)
      | fail)
    go_ret
    exact ⟨_, rfl, fun h => ⟨by omega, (hf1 (by simpa using h)).2⟩, hb1⟩
  · have q1 : decide ((n : Int) ≤ 40) = false := by simp; omega
    clear h
    go_enter Tryd.func5, Tryd.ntmps5
    go_wp2
    go_ret
    exact ⟨_, rfl, (fun h => by simp at h), Below.refl _ _⟩

def Nearl (L : Nat) (es : List En) : Prop := ∀ e ∈ es, e.ix ≤ L + 300
set_option maxHeartbeats 4000000 in
theorem near_any {w : World} {A : Option Addr} {n c L B : Nat} {es : List En} (h : Ents w A n c es) (hL : L < 18446744073709551616) :
    Calls Tryd.prog 7 #[.slice A n c, .agg #[.int .u64 (L : Int), .int .u64 (B : Int)]] w (LAns w (Nearl L es)) := by
  have hcap := h.rd.2.1
  have hnc := h.rd.1
  have hnm : (n : Int) ≤ 9223372036854775807 := by unfold maxLen at hcap; omega
  have HH := Lib.hid h
  clear h hcap hnc
  have hx0 : (w.alloc (.cells #[.int .u64 (L : Int), .int .u64 (B : Int)] 25)).cell? ⟨w.heap.size, 0, none⟩ = some (.int .u64 (L : Int)) := cell_of_row _ _ 0 _ _ _ (heap_alloc_new w _)
  have HB0 := Lib.hid ((Below.refl w.heap.size w).alloc (Nat.le_refl _) (.cells #[.int .u64 (L : Int), .int .u64 (B : Int)] 25))
  have hz0 : w.heap.size < (w.alloc (.cells #[.int .u64 (L : Int), .int .u64 (B : Int)] 25)).heap.size := by simp
  have HX0 := Lib.hid (And.intro hx0 hz0)
  clear hx0 hz0
  go_enter Tryd.func7, Tryd.ntmps7
  go_wp2
  generalize hW : w.alloc (.cells #[.int .u64 (L : Int), .int .u64 (B : Int)] 25) = W at *
  generalize hbk : w.heap.size = bk at *
  clear hW
  go_loopw [9] (fun ir wr => ∃ (i : Nat), i ≤ n ∧ ir = .int .i64 (i : Int) ∧ Hid (∀ j o, j < i → es[j]? = some o → o.ix ≤ L + 300) ∧ Below W.heap.size W wr) (fun ir _ => n - (intOf ir).toNat)
  case atStart => exact ⟨0, Nat.zero_le _, rfl, Lib.hid (fun j o hj => absurd hj (Nat.not_lt_zero _)), Below.refl _ _⟩
  case round =>
    obtain ⟨i, hi, rfl, HA, hb⟩ := hrel
    have HB := Lib.hid (show Below bk w wr from hbk ▸ (hbk.symm ▸ HB0.out).trans (hb.mono (hbk ▸ HB0.out.size)))
    have x0 : wr.cell? ⟨bk, 0, none⟩ = some (.int .u64 (L : Int)) := kept hb HX0.out.1 HX0.out.2
    have HB2 := Lib.hid hb
    clear hb
    by_cases hlt : i < n
    · obtain ⟨p, hp⟩ : ∃ p, es[i]? = some p := ⟨_, List.getElem?_eq_getElem (by have := HH.out.len; omega)⟩
      obtain ⟨b, o, rfl, hbb, hcc⟩ := HH.out.rd.2.2.2 (by omega)
      have hr := HH.out.reads p (List.mem_of_getElem? hp)
      rw [hbk] at hbb
      have hc := fun j u (hu : p.cells[j]? = some u) => (HB.out.cell (p := ⟨b, o + (i * 10 + j), none⟩) hbb).trans (hcc _ _ (ens_get es i _ hp j u hu))
      have HP := Lib.hid hp
      have hix := hr.ix
      obtain ⟨ix, tm, st, kd, cl, rq, fr, ct, da, A1, bn, bc, ls⟩ := p
      unfold En.cells at *
      have k0 := hc 0 _ rfl
      have k1 := hc 1 _ rfl
      have k2 := hc 2 _ rfl
      have k3 := hc 3 _ rfl
      have k4 := hc 4 _ rfl
      have k5 := hc 5 _ rfl
      have k6 := hc 6 _ rfl
      have k7 := hc 7 _ rfl
      have k8 := hc 8 _ rfl
      have k9 := hc 9 _ rfl
      dsimp only at k0 k1 k2 k3 k4 k5 k6 k7 k8 k9 hix
      simp only [← Nat.add_assoc, Nat.add_zero] at k0 k1 k2 k3 k4 k5 k6 k7 k8 k9
      have hlti : (i : Int) < (n : Int) := by omega
      have hin : (i : Int) ≤ 9223372036854775806 := by omega
      have HBA := Lib.hid (fun cs : Obj => (show Below W.heap.size W (wr.alloc cs) from HB2.out.alloc HB2.out.size cs))
      have x0' : ∀ cs : Obj, (wr.alloc cs).cell? ⟨bk, 0, none⟩ = some (.int .u64 (L : Int)) := fun cs => kept (HBA.out cs) HX0.out.1 HX0.out.2
      have HBW := Lib.hid (fun cs : Obj => (show Below bk w (wr.alloc cs) from HB.out.alloc (hbk ▸ HB.out.size) cs))
      clear hc hcc hp hr x0
      rcases Nat.lt_or_ge L ix with h1 | h1
      · by_cases h2 : ix ≤ L + 300
        · have q1 : ¬ (300 < ix - L) := by omega
          have q2 : ((ix : Int) > (L : Int)) := by omega
          have q3 : IntKind.u64.wrap ((ix : Int) - (L : Int)) = ((ix - L : Nat) : Int) := by rw [IntKind.wrap_u64]; omega
          go_wp2
          go_roundw
          case rel => exact ⟨i + 1, by omega, by go_num, Lib.hid (fun j o hj ho => by
            rcases Nat.lt_or_ge j i with h1 | h1
            · exact HA.out j o h1 ho
            · obtain rfl : j = i := by omega
              rw [HP.out] at ho
              cases ho
              exact h2), HBA.out _⟩
          case measure => simp [intOf]; omega
        · have q2 : ((ix : Int) > (L : Int)) := by omega
          have q3 : IntKind.u64.wrap ((ix : Int) - (L : Int)) = ((ix - L : Nat) : Int) := by rw [IntKind.wrap_u64]; omega
          have q4 : (300 : Int) < ((ix - L : Nat) : Int) := by omega
          go_wp2
          go_ret
          exact ⟨_, rfl, (fun h => by cases h), hbk ▸ HBW.out _⟩
      · have q2 : decide ((L : Int) < (ix : Int)) = false := by simp; omega
        go_wp2
        go_roundw
        case rel => exact ⟨i + 1, by omega, by go_num, Lib.hid (fun j o hj ho => by
          rcases Nat.lt_or_ge j i with h1 | h1
          · exact HA.out j o h1 ho
          · obtain rfl : j = i := by omega
            rw [HP.out] at ho
            cases ho
            show ix ≤ L + 300
            omega), HBA.out _⟩
        case measure => simp [intOf]; omega
    · obtain rfl : i = n := by omega
      go_wp2
      go_ret
      refine ⟨_, rfl, fun _ e he => ?_, hbk ▸ HB.out⟩
      obtain ⟨j, hj⟩ := List.getElem?_of_mem he
      exact HA.out j e (by have h1 := (List.getElem?_eq_some_iff.1 hj).1; have := HH.out.len; omega) hj
end Go.Proofs.YtgejmeankppmhaaDoor.Bh

namespace Go.Proofs.YtgejmeankppmhaaDoor
open Go.RowKit
open Bh (En Ents ens ens_get ecell)
set_option maxRecDepth 20000

section
variable {P : Program} {ops : Array Oper} {o : Oper} {rest : List Oper} {a : Act} {w : World} {Q : Exit → Act → World → Prop}
theorem wpL_look (hgd : o.guard = none) (ty : TypeId) (x y : Operand) (ok : Bool) (ho : o.op = .lookup ty x y ok) {p q v : Value} (hx : a.eval x = p) (hy : a.eval y = q) (hrun : (Instr.lookup ty p q ok).run P w = .ok v w) (h : wpList P ops Q rest (a.put o.dst v) w) : wpList P ops Q (o :: rest) a w := by
  refine wpList_plain hgd fun K hK => ?_
  unfold Oper.wp
  simp only [execOp, ho, hx, hy, Sem.run_bind, hrun, Result.andThen_ok, Sem.run_pure]
  exact hK _ _ h
theorem wp_upd {K : Act → World → Prop} (ty : TypeId) (x y z : Operand) (ho : o.op = .mapUpdate ty x y z) {p q r : Value} {w' : World} (hx : a.eval x = p) (hy : a.eval y = q) (hz : a.eval z = r) (hrun : (Instr.mapUpdate ty p q r).run P w = .ok () w') (h : K (a.put o.dst undef) w') : o.wp P a w K Q := by
  unfold Oper.wp
  simp only [execOp, ho, hx, hy, hz, Sem.run_bind, hrun, Result.andThen_ok, Sem.run_pure]
  exact h
theorem wpL_upd (hgd : o.guard = none) (ty : TypeId) (x y z : Operand) (ho : o.op = .mapUpdate ty x y z) {p q r : Value} {w' : World} (hx : a.eval x = p) (hy : a.eval y = q) (hz : a.eval z = r) (hrun : (Instr.mapUpdate ty p q r).run P w = .ok () w') (h : wpList P ops Q rest (a.put o.dst undef) w') : wpList P ops Q (o :: rest) a w :=
  wpList_plain hgd fun _ hK => wp_upd ty x y z ho hx hy hz hrun (hK _ _ h)
end

set_option maxHeartbeats 1000000 in
theorem ready1_any (La Ba Lb Bb x p q : Nat) (w : World) (hLa : La < 18446744073709551616) (hBa : Ba < 18446744073709551616) (hLb : Lb < 18446744073709551616) (hBb : Bb < 18446744073709551616) (hx : x < 18446744073709551616)
    (ha : w.heap[p]? = some (.cells #[.int .u64 (La : Int), .int .u64 (Ba : Int)] 25 (0, 0))) (hb : w.heap[q]? = some (.cells #[.int .u64 (Lb : Int), .int .u64 (Bb : Int)] 25 (0, 0))) :
    Calls Tryd.prog 36 #[.int .u64 (x : Int), .pointer (some ⟨p, 0, none⟩), .pointer (some ⟨q, 0, none⟩)] w fun e w' => e = .returned (.bool (Hs La Ba x && !Hs Lb Bb x)) ∧ Below w.heap.size w w' := by
  have HA := Lib.hid (fun W => has_any La Ba x W hLa hBa hx)
  have HB := Lib.hid (fun W => has_any Lb Bb x W hLb hBb hx)
  have a0 := cell_of_row w p 0 _ _ _ ha
  have a1 := cell_of_row w p 1 _ _ _ ha
  have HR := Lib.hid hb
  clear hLa hBa hLb hBb hx hb ha
  generalize Hs La Ba x = ba at *
  generalize Hs Lb Bb x = bb at *
  cases ba
  · go_enter Tryd.func36, Tryd.ntmps36
    go_wp2_with (first
      | (go_at_call 20; refine (HA.out _).mono ?_; rintro e w1 ⟨rfl, hb1⟩)
      | fail)
    go_ret
    exact ⟨rfl, hb1⟩
  · go_enter Tryd.func36, Tryd.ntmps36
    go_wp2_with (first
      | (go_at_call 20; refine (HA.out _).mono ?_; rintro e w1 ⟨rfl, hb1⟩
         have b0 := cell_of_row w1 q 0 _ _ _ (row_below HR.out hb1)
         have b1 := cell_of_row w1 q 1 _ _ _ (row_below HR.out hb1)
         clear HA)
      | (go_at_call 20; refine (HB.out _).mono ?_; rintro e w2 ⟨rfl, hb2⟩)
      | fail)
    go_ret
    exact ⟨by cases bb <;> rfl, hb1.trans (hb2.mono hb1.size)⟩

/-- No entry. -/
def Ez : En := ⟨0, 0, 0, 0, 0, 0, 0, 0, [], none, 0, 0, []⟩
theorem ez_zero (w : World) : (zeroValue 43).run Tryd.prog w = .ok (.agg Ez.cells) w := by kernel_rfl
/-- The first entry of an index that counts. -/
def fstE (cnt : Nat → Bool) (es : List En) : SaysE := fun x => if cnt x = true then (es.find? fun e => decide (e.ix = x)).map En.cells else none
theorem fstE_nil (cnt : Nat → Bool) : fstE cnt [] = fun _ => none := by
  funext x
  unfold fstE
  split <;> rfl
theorem fstE_of {cnt : Nat → Bool} {es : List En} {x : Nat} {c : Array Value} (h : fstE cnt es x = some c) : ∃ e ∈ es, e.ix = x ∧ c = e.cells := by
  unfold fstE at h
  split at h
  · rw [Option.map_eq_some_iff] at h
    obtain ⟨e, h1, h2⟩ := h
    exact ⟨e, List.mem_of_find?_eq_some h1, by simpa using List.find?_some h1, h2.symm⟩
  · cases h
theorem take_snoc {es : List En} {i : Nat} {p : En} (hp : es[i]? = some p) : es.take (i + 1) = es.take i ++ [p] := by
  rw [List.take_add_one, hp]
  rfl
theorem fstE_again {cnt : Nat → Bool} {es : List En} {i : Nat} {p : En} (hp : es[i]? = some p) (h : (fstE cnt (es.take i) p.ix).isSome = true ∨ cnt p.ix = false) : fstE cnt (es.take (i + 1)) = fstE cnt (es.take i) := by
  funext x
  unfold fstE at h ⊢
  rw [take_snoc hp, List.find?_append]
  by_cases hx : p.ix = x
  · subst hx
    rcases h with h | h
    · split
      · next hc =>
        rw [if_pos hc] at h
        cases hf : (es.take i).find? (fun e => decide (e.ix = p.ix)) with
        | none => rw [hf] at h; cases h
        | some e => rfl
      · rfl
    · rw [if_neg (by rw [h]; decide), if_neg (by rw [h]; decide)]
  · have : [p].find? (fun e => decide (e.ix = x)) = none := by simp [hx]
    rw [this, Option.or_none]
theorem fstE_put {cnt : Nat → Bool} {es : List En} {i : Nat} {p : En} (hp : es[i]? = some p) (h : fstE cnt (es.take i) p.ix = none) (hc : cnt p.ix = true) : fstE cnt (es.take (i + 1)) = fun y => if y = p.ix then some p.cells else fstE cnt (es.take i) y := by
  funext x
  unfold fstE at h ⊢
  rw [take_snoc hp, List.find?_append]
  by_cases hx : x = p.ix
  · subst hx
    rw [if_pos hc] at h
    rw [if_pos hc, if_pos rfl]
    rw [Option.map_eq_none_iff] at h
    rw [h]
    simp
  · have : [p].find? (fun e => decide (e.ix = x)) = none := by simp; exact fun h => hx h.symm
    rw [this, Option.or_none, if_neg hx]
end Go.Proofs.YtgejmeankppmhaaDoor

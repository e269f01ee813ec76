/- Lists of entries as arguments of a law, read as data. What is void by others: the program's closures. -/
import Derived.Test.YtapfggpeodpflaaSlcM
import Derived.Test.YtapfggpeodpflaaBlightM
import Derived.Laws.EntriesVeiled
namespace Go.Proofs.Ytapfggpeodpflaa
set_option maxRecDepth 20000
open Go.ChangeShapes Go.WideShapes Go.ChangeAt Go.RowKit
open Go.Deep (oneCellFields open_slice hone_of)

/-- A list of entries: where it lies, and what it holds. -/
structure Li where
  A : Option Addr
  n : Nat
  c : Nat
  es : List En
def Li.v (l : Li) : Value := .slice l.A l.n l.c
def Li.cells (l : Li) : Array Value := #[l.v]
def Li.Reads (l : Li) (w : World) : Prop := Ents w l.A l.n l.c l.es
def Li.zero : Li := ⟨none, 0, 0, []⟩
theorem Li.zero_reads (W : World) : Li.zero.Reads W := ⟨Rd.nil_, rfl, fun _ h => by cases h⟩
theorem Li.size (l : Li) : l.cells.size = 1 := rfl
def Li.lay : Lay Li 1 := ⟨Li.cells, Li.size, Li.Reads, fun _ _ _ h hb => Ents.below h hb, Li.zero, Li.zero_reads⟩
section
variable {H : Type} {enc : TypeId × Value → H} {P : Program} {W : World} {r : Reach} {b0 : Nat} {t e : TypeId} {v : Value} {d : DataW H} {p : List MemPlace}
theorem entries_of_cells {fuel : Nat} {cs : List Value} {y : DataW H × List MemPlace} (ht : P.underlying t = some (.slice e)) (he : EntryT P e) (hf : DataW.trod enc P W 0 (fun _ => true) true fuel t cs = some y) : ∃ (A : Option Addr) (n c : Nat) (es : List En), cs = [.slice A n c] ∧ Ents W A n c es := by
  have hC : P.cellsOf e = 10 := by obtain ⟨_, _, _, _, _, _, _, _, _, _, _, _, _, _, h, _⟩ := he; exact h
  rcases open_slice ht hf with ⟨hcs, _⟩ | ⟨x, n, c, m, k, D, Pl, hcs, _, hl, hm, hmm, _, hi⟩
  · subst hcs
    exact ⟨_, _, _, [], rfl, Rd.nil_, rfl, fun _ h => by cases h⟩
  · subst hcs
    simp only [if_true] at hmm
    rw [hC] at hi
    have each : ∀ i, ∃ o : En, (i < n → ∀ c u, o.cells[c]? = some u → W.cell? (x.add (i * 10 + c)) = some u) ∧ o.Reads W := by
      intro i
      by_cases hin : i < n
      · obtain ⟨cs', hc, ht'⟩ := hi i (by omega)
        obtain ⟨_, hcl, hat⟩ := World.cells?_some hc
        obtain ⟨o, ho, hr⟩ := entry_of_cells he hcl ht'
        refine ⟨o, fun _ c u hu => ?_, hr⟩
        have hc10 : c < 10 := (Array.getElem?_eq_some_iff.1 hu).1
        have a := hat c hc10
        rw [← Go.Deep.add_add, a, ho]
        rwa [Array.getElem?_toList]
      · exact ⟨enNil, fun h => absurd h hin, enNil_reads W⟩
    obtain ⟨g, hg⟩ := Classical.axiomOfChoice each
    refine ⟨_, n, c, (List.range n).map g, rfl, ⟨hl, hm, by rw [ens_len]; simp, fun hn => ?_⟩, by simp, fun o ho => by obtain ⟨i, _, rfl⟩ := List.mem_map.1 ho; exact (hg i).2⟩
    have hc0 := (hg 0).1 (by omega) 0 _ (show (g 0).cells[0]? = some (.int .u64 ((g 0).ix : Int)) from rfl)
    obtain ⟨b, off, spot⟩ := x
    have hspot : spot = none := by simpa [Addr.add] using World.cell?_spot hc0
    subst hspot
    refine ⟨b, off, rfl, ?_, fun j u hu => ?_⟩
    · have := World.block_lt_of_cell? W _ hc0
      simpa [addOff] using this
    · obtain ⟨i, c', hi', hc', rfl, hu'⟩ := ens_range g n j u hu
      have := (hg i).1 hi' c' u hu'
      rwa [addOff] at this
end
section
variable {H : Type} {enc : TypeId × Value → H} {W : World} {r : Reach} {b0 : Nat} {v : Value} {d : DataW H} {p : List MemPlace}
theorem Li.of_cells {n : Nat} {cs : List Value} {y : DataW H × List MemPlace} (h : DataW.trod enc Try.prog W 0 (fun _ => true) true n 23 cs = some y) : ∃ o : Li, cs = o.cells.toList ∧ o.Reads W := by
  obtain ⟨A, n, c, es, h1, h2⟩ := entries_of_cells Try.underlying23 entryT h
  exact ⟨⟨A, n, c, es⟩, h1, h2⟩
theorem Li.dec (hok : Value.okWide Try.prog W r b0 29 v) (h : DataW.Trod enc Try.prog W 0 (fun _ => true) true 29 v d p) : ∃ (A : Option Addr) (n c : Nat) (os : List Li), v = .slice A n c ∧ Slc Li.lay W A n c os :=
  dec_slc Try.underlying29 (by kernel_rfl) (by decide) (fun _ _ _ _ h => Li.of_cells h) hok h
end
/-- All entries, one list behind the other. -/
def flat (Ls : List Li) : List En := Ls.flatMap Li.es
theorem flat_nil : flat [] = [] := rfl
theorem flat_snoc (Ls : List Li) (i : Nat) (l : Li) (h : Ls[i]? = some l) : flat (Ls.take (i + 1)) = flat (Ls.take i) ++ l.es := by
  unfold flat
  rw [List.take_add_one, h, List.flatMap_append]
  simp
theorem flat_all (Ls : List Li) (n : Nat) (h : Ls.length ≤ n) : flat (Ls.take n) = flat Ls := by rw [List.take_of_length_le h]
end Go.Proofs.Ytapfggpeodpflaa

namespace Go.Proofs.Ytapfggpeodpflaa
open Go.RowKit
set_option maxRecDepth 20000

theorem row_below {w w' : World} {b : Nat} {o : Obj} (h : w.heap[b]? = some o) (hb : Below w.heap.size w w') : w'.heap[b]? = some o := (hb.block b (Array.getElem?_eq_some_iff.1 h).1).trans h
/-- The row of an entry. -/
abbrev ERow (w : World) (p : Nat) (e : En) : Prop := w.heap[p]? = some (.cells e.cells 55 (0, 0))
def vd (es : List En) (x : En) : Bool := es.any fun e => e.voids x
/-- Of whom a call tells the first one, or -1. -/
def Found (b : Bool) (w : World) (r : Ending) (w' : World) : Prop := ∃ k : Int, r = .returned (.int .i64 k) ∧ decide (0 ≤ k) = b ∧ Below w.heap.size w w'
theorem vd_take {es : List En} {i : Nat} {p x : En} (hp : es[i]? = some p) (h : vd (es.take i) x = false) : vd (es.take (i + 1)) x = p.voids x := by
  unfold vd at *
  rw [List.take_add_one, hp, List.any_append, h]
  simp
theorem vd_yes {es : List En} {i : Nat} {p x : En} (hp : es[i]? = some p) (h : p.voids x = true) : vd es x = true := List.any_eq_true.2 ⟨p, List.mem_of_getElem? hp, h⟩
theorem vd_flat (Ls : List Li) (x : En) : vd (flat Ls) x = Ls.any fun l => vd l.es x := by
  unfold vd flat
  rw [List.any_flatMap]

set_option maxHeartbeats 1000000 in
theorem void1_any (e x : En) (p : Nat) (w : World) (h : e.Reads w) (hx : x.Reads w) (hr : ERow w p x) :
    Calls Try.prog 66 #[.agg e.cells, .pointer (some ⟨p, 0, none⟩)] w fun r w' => r = .returned (.bool (e.voids x)) ∧ Below w.heap.size w w' := by
  obtain ⟨W, hW, hz, r0, hb⟩ := boxes1 w e.cells 55
  have HV := Lib.hid (fun W' (hb' : Below W.heap.size W W') => voids_any e x W' ((h.below hb).below hb') ((hx.below hb).below hb'))
  have HB := Lib.hid hb
  have r1 := row_below hr hb
  have HZ := Lib.hid hz
  clear hr h hx hb hz
  generalize e.voids x = T at *
  obtain ⟨ix, tm, st, kd, cl, rq, fr, ct, da, A, bn, bc, ls⟩ := e
  obtain ⟨ix2, tm2, st2, kd2, cl2, rq2, fr2, ct2, da2, A2, bn2, bc2, ls2⟩ := x
  unfold ERow En.cells at *
  dsimp only at *
  subst hW
  go_enter Try.func66, Try.ntmps66
  have r1_0 := cell_of_row _ (p) 0 _ _ _ r1
  have r1_1 := cell_of_row _ (p) 1 _ _ _ r1
  have r1_2 := cell_of_row _ (p) 2 _ _ _ r1
  have r1_3 := cell_of_row _ (p) 3 _ _ _ r1
  have r1_4 := cell_of_row _ (p) 4 _ _ _ r1
  have r1_5 := cell_of_row _ (p) 5 _ _ _ r1
  have r1_6 := cell_of_row _ (p) 6 _ _ _ r1
  have r1_7 := cell_of_row _ (p) 7 _ _ _ r1
  have r1_8 := cell_of_row _ (p) 8 _ _ _ r1
  have r1_9 := cell_of_row _ (p) 9 _ _ _ r1
  go_wp2_with (first
    | (go_at_call 67; refine (HV.out _ (Below.refl _ _)).mono ?_; rintro e w1 ⟨rfl, hb1⟩)
    | fail)
  go_ret
  exact ⟨rfl, HB.out.trans (hb1.mono HB.out.size)⟩

set_option maxHeartbeats 4000000 in
theorem index1_any {w : World} {A : Option Addr} {n c : Nat} {es : List En} (h : Ents w A n c es) (x : En) (p : Nat) (hx : x.Reads w) (hr : ERow w p x) :
    Calls Try.prog 83 #[.slice A n c, .func (.func 66) #[] #[.pointer (some ⟨p, 0, none⟩)]] w (Found (vd es x) w) := by
  have hcap := h.rd.2.1
  have hnc := h.rd.1
  have hnm : (n : Int) ≤ 9223372036854775807 := by unfold maxLen at hcap; omega
  have HH := Lib.hid h
  have HX := Lib.hid hx
  have HR := Lib.hid hr
  clear h hcap hnc hx hr
  go_enter Try.func83, Try.ntmps83
  go_wp2
  go_loopw [5, 8] (fun _ ir wr => ∃ (i : Nat), i ≤ n ∧ ir = .int .i64 (i : Int) ∧ Hid (vd (es.take i) x = false) ∧ Below w.heap.size w wr) (fun _ ir _ => n - (intOf ir).toNat)
  case atStart => exact ⟨0, Nat.zero_le _, rfl, Lib.hid rfl, Below.refl _ _⟩
  case round =>
    obtain ⟨i, hi, rfl, HN, hb⟩ := hrel
    have HB := Lib.hid hb
    clear hb
    by_cases hlt : i < n
    · obtain ⟨p0, hp⟩ : ∃ p0, es[i]? = some p0 := ⟨_, List.getElem?_eq_getElem (by have := HH.out.len; omega)⟩
      obtain ⟨b, o, rfl, hbb, hcc⟩ := HH.out.rd.2.2.2 (by omega)
      have hrd := HH.out.reads p0 (List.mem_of_getElem? hp)
      have HV := Lib.hid (void1_any p0 x p wr (hrd.below HB.out) (HX.out.below HB.out) (row_below HR.out HB.out))
      have hce := fun j u (hu : p0.cells[j]? = some u) => (HB.out.cell (p := ⟨b, o + (i * 10 + j), none⟩) hbb).trans (hcc _ _ (ens_get es i _ hp j u hu))
      have HT := Lib.hid (vd_take hp HN.out)
      have HY := Lib.hid (fun h => vd_yes (x := x) hp h)
      generalize p0.voids x = T at *
      have hlti : (i : Int) < (n : Int) := by omega
      have hin : (i : Int) ≤ 9223372036854775806 := by omega
      clear hcc hp hrd
      obtain ⟨ix, tm, st, kd, cl, rq, fr, ct, da, A1, bn, bc, ls⟩ := p0
      unfold En.cells at *
      dsimp only at *
      have k0 := hce 0 _ rfl
      have k1 := hce 1 _ rfl
      have k2 := hce 2 _ rfl
      have k3 := hce 3 _ rfl
      have k4 := hce 4 _ rfl
      have k5 := hce 5 _ rfl
      have k6 := hce 6 _ rfl
      have k7 := hce 7 _ rfl
      have k8 := hce 8 _ rfl
      have k9 := hce 9 _ rfl
      try dsimp only at k0 k1 k2 k3 k4 k5 k6 k7 k8 k9
      simp only [← Nat.add_assoc, Nat.add_zero] at k0 k1 k2 k3 k4 k5 k6 k7 k8 k9
      clear hce
      cases T
      · go_wp2_with (first
          | (go_at_call 66; refine HV.out.mono ?_; rintro e w1 ⟨rfl, hb1⟩)
          | fail)
        go_roundw
        case rel => exact ⟨i + 1, by omega, by go_num, HT, HB.out.trans (hb1.mono HB.out.size)⟩
        case measure => simp [intOf]; omega
      · go_wp2_with (first
          | (go_at_call 66; refine HV.out.mono ?_; rintro e w1 ⟨rfl, hb1⟩)
          | fail)
        go_ret
        exact ⟨_, rfl, by rw [HY.out (by trivial)]; simp, HB.out.trans (hb1.mono HB.out.size)⟩
    · obtain rfl : i = n := by omega
      have HF := Lib.hid HN.out
      rw [List.take_of_length_le (by have := HH.out.len; omega)] at HF
      go_wp2
      go_ret
      exact ⟨_, rfl, by rw [HF.out]; rfl, HB.out⟩

set_option maxHeartbeats 1000000 in
theorem contains1_any {w : World} {A : Option Addr} {n c : Nat} {es : List En} (h : Ents w A n c es) (x : En) (p : Nat) (hx : x.Reads w) (hr : ERow w p x) :
    Calls Try.prog 70 #[.slice A n c, .func (.func 66) #[] #[.pointer (some ⟨p, 0, none⟩)]] w fun r w' => r = .returned (.bool (vd es x)) ∧ Below w.heap.size w w' := by
  have HI := Lib.hid (index1_any h x p hx hr)
  clear h hx hr
  go_enter Try.func70, Try.ntmps70
  go_wp2_with (first
    | (go_at_call 83; refine HI.out.mono ?_; rintro e w1 ⟨k, rfl, hk, hb1⟩)
    | fail)
  go_ret
  exact ⟨by first | rfl | exact ret_bool hk, hb1⟩

set_option maxHeartbeats 1000000 in
theorem void2_any {w : World} {A : Option Addr} {n c : Nat} {es : List En} (h : Ents w A n c es) (x : En) (p q : Nat) (hx : x.Reads w) (hr : ERow w p x) (hq : w.cell? ⟨q, 0, none⟩ = some (.func (.func 66) #[] #[.pointer (some ⟨p, 0, none⟩)])) :
    Calls Try.prog 69 #[.slice A n c, .pointer (some ⟨q, 0, none⟩)] w fun r w' => r = .returned (.bool (vd es x)) ∧ Below w.heap.size w w' := by
  have HI := Lib.hid (contains1_any h x p hx hr)
  clear h hx hr
  go_enter Try.func69, Try.ntmps69
  go_wp2_with (first
    | (go_at_call 70; refine HI.out.mono ?_; rintro e w1 ⟨rfl, hb1⟩)
    | fail)
  go_ret
  exact ⟨rfl, hb1⟩

set_option maxHeartbeats 4000000 in
theorem index2_any {w : World} {A : Option Addr} {n c : Nat} {Ls : List Li} (h : Slc Li.lay w A n c Ls) (x : En) (p q : Nat) (hx : x.Reads w) (hr : ERow w p x) (hq : w.cell? ⟨q, 0, none⟩ = some (.func (.func 66) #[] #[.pointer (some ⟨p, 0, none⟩)])) :
    Calls Try.prog 82 #[.slice A n c, .func (.func 69) #[] #[.pointer (some ⟨q, 0, none⟩)]] w (Found (vd (flat Ls) x) w) := by
  have hcap := h.rd.2.1
  have hnc := h.rd.1
  have hnm : (n : Int) ≤ 9223372036854775807 := by unfold maxLen at hcap; omega
  have HH := Lib.hid h
  have HX := Lib.hid hx
  have HR := Lib.hid hr
  have HQ := Lib.hid hq
  have HF := Lib.hid (vd_flat Ls x)
  clear h hcap hnc hx hr hq
  go_enter Try.func82, Try.ntmps82
  go_wp2
  go_loopw [5, 8] (fun _ ir wr => ∃ (i : Nat), i ≤ n ∧ ir = .int .i64 (i : Int) ∧ Hid (((Ls.take i).any fun l => vd l.es x) = false) ∧ Below w.heap.size w wr) (fun _ ir _ => n - (intOf ir).toNat)
  case atStart => exact ⟨0, Nat.zero_le _, rfl, Lib.hid rfl, Below.refl _ _⟩
  case round =>
    obtain ⟨i, hi, rfl, HN, hb⟩ := hrel
    have HB := Lib.hid hb
    clear hb
    by_cases hlt : i < n
    · obtain ⟨p0, hp⟩ : ∃ p0, Ls[i]? = some p0 := ⟨_, List.getElem?_eq_getElem (by have := HH.out.len; omega)⟩
      obtain ⟨b, o, rfl, hbb, hcc⟩ := HH.out.at_ (by omega)
      have hrd : Ents w p0.A p0.n p0.c p0.es := HH.out.reads p0 (List.mem_of_getElem? hp)
      have HV := Lib.hid (void2_any (hrd.below HB.out) x p q (HX.out.below HB.out) (row_below HR.out HB.out) ((HB.out.cell (p := ⟨q, 0, none⟩) (World.block_lt_of_cell? w _ HQ.out)).trans HQ.out))
      have k0 : wr.cell? ⟨b, o + i, none⟩ = some (.slice p0.A p0.n p0.c) := (HB.out.cell (p := ⟨b, o + i, none⟩) hbb).trans (by have := hcc i p0 hp 0 (.slice p0.A p0.n p0.c) rfl; rwa [Nat.mul_one, Nat.add_zero] at this)
      have HT : Hid (((Ls.take (i + 1)).any fun l => vd l.es x) = vd p0.es x) := Lib.hid (by rw [List.take_add_one, hp, List.any_append, HN.out]; simp)
      have HY : Hid (vd p0.es x = true → (Ls.any fun l => vd l.es x) = true) := Lib.hid (fun h => List.any_eq_true.2 ⟨p0, List.mem_of_getElem? hp, h⟩)
      generalize vd p0.es x = T at *
      have hlti : (i : Int) < (n : Int) := by omega
      have hin : (i : Int) ≤ 9223372036854775806 := by omega
      clear hcc hp hrd
      obtain ⟨A1, n1, c1, es1⟩ := p0
      dsimp only at *
      cases T
      · go_wp2_with (first
          | (go_at_call 69; refine HV.out.mono ?_; rintro e w1 ⟨rfl, hb1⟩)
          | fail)
        go_roundw
        case rel => exact ⟨i + 1, by omega, by go_num, HT, HB.out.trans (hb1.mono HB.out.size)⟩
        case measure => simp [intOf]; omega
      · go_wp2_with (first
          | (go_at_call 69; refine HV.out.mono ?_; rintro e w1 ⟨rfl, hb1⟩)
          | fail)
        go_ret
        exact ⟨_, rfl, by rw [HF.out, HY.out (by trivial)]; simp, HB.out.trans (hb1.mono HB.out.size)⟩
    · obtain rfl : i = n := by omega
      have HG := Lib.hid HN.out
      rw [List.take_of_length_le (by have := HH.out.len; omega)] at HG
      go_wp2
      go_ret
      exact ⟨_, rfl, by rw [HF.out, HG.out]; rfl, HB.out⟩

set_option maxHeartbeats 1000000 in
theorem contains2_any {w : World} {A : Option Addr} {n c : Nat} {Ls : List Li} (h : Slc Li.lay w A n c Ls) (x : En) (p q : Nat) (hx : x.Reads w) (hr : ERow w p x) (hq : w.cell? ⟨q, 0, none⟩ = some (.func (.func 66) #[] #[.pointer (some ⟨p, 0, none⟩)])) :
    Calls Try.prog 68 #[.slice A n c, .func (.func 69) #[] #[.pointer (some ⟨q, 0, none⟩)]] w fun r w' => r = .returned (.bool (vd (flat Ls) x)) ∧ Below w.heap.size w w' := by
  have HI := Lib.hid (index2_any h x p q hx hr hq)
  clear h hx hr hq
  go_enter Try.func68, Try.ntmps68
  go_wp2_with (first
    | (go_at_call 82; refine HI.out.mono ?_; rintro e w1 ⟨k, rfl, hk, hb1⟩)
    | fail)
  go_ret
  exact ⟨by first | rfl | exact ret_bool hk, hb1⟩

set_option maxHeartbeats 1000000 in
theorem void_any {w : World} {A : Option Addr} {n c : Nat} {Ls : List Li} (h : Slc Li.lay w A n c Ls) (x : En) (hx : x.Reads w) :
    Calls Try.prog 51 #[.agg x.cells, .slice A n c] w fun r w' => r = .returned (.bool (vd (flat Ls) x)) ∧ Below w.heap.size w w' := by
  obtain ⟨W, hW, hz, r0, r1, hb⟩ := boxes2 w x.cells #[.func (.func 66) #[] #[.pointer (some ⟨w.heap.size, 0, none⟩)]] 55 82
  have HI := Lib.hid (contains2_any (h.below hb) x w.heap.size (w.heap.size + 1) (hx.below hb) r0 (by rw [cell_of_row W _ 0 _ _ _ r1]; rfl))
  have HB := Lib.hid hb
  have HW := Lib.hid hW
  clear h hx hz r0 r1 hb hW
  generalize vd (flat Ls) x = T at *
  obtain ⟨ix, tm, st, kd, cl, rq, fr, ct, da, A1, bn, bc, ls⟩ := x
  unfold En.cells at *
  dsimp only at *
  go_enter Try.func51, Try.ntmps51
  go_wp2_with (first
    | (go_at_call 68; rw [← HW.out]; refine HI.out.mono ?_; rintro e w1 ⟨rfl, hb1⟩)
    | fail)

  go_ret
  exact ⟨rfl, HB.out.trans (hb1.mono HB.out.size)⟩
end Go.Proofs.Ytapfggpeodpflaa

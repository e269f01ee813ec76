/- Who is light: entries, and slices of them. Slices of entries as arguments of a law, read as data. -/
import Derived.Test.YtapfggpeodpflaaVoidsM
namespace Go.Proofs.Ytapfggpeodpflaa
open Go.RowKit

def ens (es : List En) : List Value := es.flatMap (fun e => e.cells.toList)
theorem ens_len (es : List En) : (ens es).length = es.length * 10 := by
  induction es with
  | nil => rfl
  | cons o os ih =>
    show (o.cells.toList ++ ens os).length = _
    rw [List.length_append, ih]
    show 10 + os.length * 10 = (os.length + 1) * 10
    omega
theorem ens_get (os : List En) (i : Nat) (o : En) (hi : os[i]? = some o) (j : Nat) (u : Value) (hj : o.cells[j]? = some u) : (ens os)[i * 10 + j]? = some u := by
  induction os generalizing i with
  | nil => simp at hi
  | cons p os ih =>
    have e : ens (p :: os) = p.cells.toList ++ ens os := rfl
    have hl : p.cells.toList.length = 10 := rfl
    rw [e]
    cases i with
    | zero =>
      simp only [List.getElem?_cons_zero, Option.some.injEq] at hi
      subst hi
      have hj2 : j < p.cells.toList.length := by have := (Array.getElem?_eq_some_iff.1 hj).1; simpa using this
      rw [Nat.zero_mul, Nat.zero_add, List.getElem?_append_left hj2]
      simpa using hj
    | succ i =>
      simp only [List.getElem?_cons_succ] at hi
      rw [List.getElem?_append_right (by omega), hl, show (i + 1) * 10 + j - 10 = i * 10 + j from by omega]
      exact ih i hi
structure Ents (w : World) (A : Option Addr) (n c : Nat) (es : List En) : Prop where
  rd : Rd w w.heap.size 10 A n c (ens es)
  len : es.length = n
  reads : ∀ e ∈ es, e.Reads w
theorem Ents.below {w w' : World} {A : Option Addr} {n c : Nat} {es : List En} (h : Ents w A n c es) (hb : Below w.heap.size w w') : Ents w' A n c es := ⟨(h.rd.below hb).more hb.size, h.len, fun o ho => (h.reads o ho).below hb⟩
def En.fits (e : En) : Prop := e.da.length ≤ 20000 ∧ e.bn ≤ 200

def LAns (w : World) (p : Prop) (r : Ending) (w' : World) : Prop := ∃ b, r = .returned (.bool b) ∧ (b = true → p) ∧ Below w.heap.size w w'
theorem light9 (e : En) (w : World) (h : e.Reads w) : Calls Try.prog 46 #[.agg e.cells] w (LAns w e.fits) := by
  have hda := h.da
  have hbc := h.rd.2.1
  have hnc := h.rd.1
  clear h
  obtain ⟨ix, tm, st, kd, cl, rq, fr, ct, da, A, bn, bc, ls⟩ := e
  unfold En.cells En.fits
  dsimp only at *
  unfold maxLen at *
  have e1 : (str da).size = da.length := rfl
  generalize da.length = m at *
  go_enter Try.func46, Try.ntmps46
  go_wp2
  · go_ret
    exact ⟨_, rfl, fun h => ⟨by omega, by simp at h; omega⟩, (Below.refl _ _).alloc (Nat.le_refl _) _⟩
  · go_ret
    exact ⟨_, rfl, (fun h => by cases h), (Below.refl _ _).alloc (Nat.le_refl _) _⟩

def Fitl (es : List En) : Prop := es.length ≤ 200 ∧ ∀ e ∈ es, e.fits
set_option maxHeartbeats 4000000 in
theorem light10 {w : World} {A : Option Addr} {n c : Nat} {es : List En} (h : Ents w A n c es) :
    Calls Try.prog 32 #[.slice A n c] w (LAns w (Fitl es)) := by
  have hcap := h.rd.2.1
  have hnc := h.rd.1
  have hnm : (n : Int) ≤ 9223372036854775807 := by unfold maxLen at hcap; omega
  have HH := Lib.hid h
  clear h hcap hnc
  go_enter Try.func32, Try.ntmps32
  go_wp2
  go_loopw [7] (fun ir wr => ∃ (i : Nat), i ≤ n ∧ ir = .int .i64 (i : Int) ∧ Hid (∀ j o, j < i → es[j]? = some o → o.fits) ∧ Below w.heap.size w wr) (fun ir _ => n - (intOf ir).toNat)
  case atStart => exact ⟨0, Nat.zero_le _, rfl, Lib.hid (fun j o hj => absurd hj (Nat.not_lt_zero _)), Below.refl _ _⟩
  case round =>
    obtain ⟨i, hi, rfl, HA, hb⟩ := hrel
    have HB := Lib.hid hb
    clear hb
    by_cases hlt : i < n
    · obtain ⟨p, hp⟩ : ∃ p, es[i]? = some p := ⟨_, List.getElem?_eq_getElem (by have := HH.out.len; omega)⟩
      obtain ⟨b, o, rfl, hbb, hcc⟩ := HH.out.rd.2.2.2 (by omega)
      have hr := HH.out.reads p (List.mem_of_getElem? hp)
      have hli := fun (cs : Obj) => light9 p (wr.alloc cs) (hr.below (HB.out.alloc HB.out.size cs))
      have hc := fun j u (hu : p.cells[j]? = some u) => (HB.out.cell (p := ⟨b, o + (i * 10 + j), none⟩) hbb).trans (hcc _ _ (ens_get es i _ hp j u hu))
      have HP := Lib.hid hp
      have HLI := Lib.hid hli
      have hfit : ∀ P, p.fits = P → True := fun _ _ => trivial
      obtain ⟨ix, tm, st, kd, cl, rq, fr, ct, da, A1, bn, bc, ls⟩ := p
      unfold En.cells at *
      have k0 := hc 0 _ rfl
      have k1 := hc 1 _ rfl
      have k2 := hc 2 _ rfl
      have k3 := hc 3 _ rfl
      have k4 := hc 4 _ rfl
      have k5 := hc 5 _ rfl
      have k6 := hc 6 _ rfl
      have k7 := hc 7 _ rfl
      have k8 := hc 8 _ rfl
      have k9 := hc 9 _ rfl
      dsimp only at k0 k1 k2 k3 k4 k5 k6 k7 k8 k9
      simp only [← Nat.add_assoc, Nat.add_zero] at k0 k1 k2 k3 k4 k5 k6 k7 k8 k9
      have hlti : (i : Int) < (n : Int) := by omega
      have hin : (i : Int) ≤ 9223372036854775806 := by omega
      clear hc hcc hp hli hr hfit
      go_wp2_with (first
        | (go_at_call 46; refine (HLI.out _).mono ?_; rintro e w1 ⟨b1, rfl, hf1, hb1⟩
           have HF1 := Lib.hid hf1
           have HB1 := Lib.hid (HB.out.trans ((unal hb1).mono HB.out.size))
           clear hf1 hb1
           cases b1)
        | fail)
      · go_ret
        exact ⟨_, rfl, (fun h => by cases h), HB1.out⟩
      · go_roundw
        case rel => exact ⟨i + 1, by omega, by go_num, Lib.hid (fun j o hj ho => by
          rcases Nat.lt_or_ge j i with h1 | h1
          · exact HA.out j o h1 ho
          · obtain rfl : j = i := by omega
            rw [HP.out] at ho
            cases ho
            exact HF1.out trivial), HB1.out⟩
        case measure => simp [intOf]; omega
    · obtain rfl : i = n := by omega
      have hall : ∀ e ∈ es, e.fits := fun e he => by
        obtain ⟨j, hj⟩ := List.getElem?_of_mem he
        exact HA.out j e (by have h1 := (List.getElem?_eq_some_iff.1 hj).1; have := HH.out.len; omega) hj
      have HALL := Lib.hid hall
      clear hall
      by_cases h200 : i ≤ 200
      · go_wp2
        go_ret
        exact ⟨_, rfl, fun _ => ⟨by have := HH.out.len; omega, HALL.out⟩, HB.out⟩
      · have q1 : decide (i ≤ 200) = false := by simpa using h200
        go_wp2
        go_ret
        exact ⟨_, rfl, (fun h => by simp at h; omega), HB.out⟩

end Go.Proofs.Ytapfggpeodpflaa

namespace Go.Proofs.Ytapfggpeodpflaa
open Go.ChangeShapes Go.WideShapes Go.ChangeAt Go.RowKit
open Go.Deep (oneCellFields open_slice hone_of)

def enNil : En := ⟨0, 0, 0, 0, 0, 0, 0, 0, [], none, 0, 0, []⟩
theorem enNil_reads (W : World) : enNil.Reads W := ⟨by decide, by decide, by decide, by decide, ⟨by decide, by decide, by decide, by decide⟩, Nat.zero_le _, Rd.nil_, rfl, fun _ h => by cases h⟩
theorem ens_range (g : Nat → En) (n j : Nat) (u : Value) (h : (ens ((List.range n).map g))[j]? = some u) : ∃ i c, i < n ∧ c < 10 ∧ j = i * 10 + c ∧ (g i).cells[c]? = some u := by
  have hl : j < n * 10 := by
    have := (List.getElem?_eq_some_iff.1 h).1
    rwa [ens_len, List.length_map, List.length_range] at this
  refine ⟨j / 10, j % 10, by omega, Nat.mod_lt _ (by decide), by omega, ?_⟩
  have hi : ((List.range n).map g)[j / 10]? = some (g (j / 10)) := by
    rw [List.getElem?_map, List.getElem?_range (by omega)]
    rfl
  have hc : ∃ u', (g (j / 10)).cells[j % 10]? = some u' := ⟨_, Array.getElem?_eq_getElem (by show j % 10 < 10; exact Nat.mod_lt _ (by decide))⟩
  obtain ⟨u', hu'⟩ := hc
  have := ens_get _ _ _ hi _ _ hu'
  rw [show j / 10 * 10 + j % 10 = j from by omega, h] at this
  cases this
  exact hu'
section
variable {H : Type} {enc : TypeId × Value → H} {P : Program} {W : World} {r : Reach} {b0 : Nat} {t e : TypeId} {v : Value} {d : DataW H} {p : List MemPlace}
theorem dec_entries (ht : P.underlying t = some (.slice e)) (he : EntryT P e) (hok : Value.okWide P W r b0 t v) (h : DataW.Trod enc P W 0 (fun _ => true) true t v d p) : ∃ (A : Option Addr) (n c : Nat) (es : List En), v = .slice A n c ∧ Ents W A n c es := by
  have hC : P.cellsOf e = 10 := by obtain ⟨_, _, _, _, _, _, _, _, _, _, _, _, _, _, h, _⟩ := he; exact h
  obtain ⟨A, n, c, rfl⟩ := okWide_slice ht hok
  obtain ⟨fuel, hf⟩ := h
  rcases open_slice ht hf with ⟨hcs, _⟩ | ⟨x, l, c', m, k, D, Pl, hcs, _, hl, hm, hmm, _, hi⟩
  · simp [Value.cells] at hcs
    obtain ⟨rfl, rfl, rfl⟩ := hcs
    exact ⟨_, _, _, [], rfl, Rd.nil_, rfl, fun _ h => by cases h⟩
  · simp [Value.cells] at hcs
    obtain ⟨rfl, rfl, rfl⟩ := hcs
    simp only [if_true] at hmm
    rw [hC] at hi
    have each : ∀ i, ∃ o : En, (i < n → ∀ c u, o.cells[c]? = some u → W.cell? (x.add (i * 10 + c)) = some u) ∧ o.Reads W := by
      intro i
      by_cases hin : i < n
      · obtain ⟨cs', hc, ht'⟩ := hi i (by omega)
        obtain ⟨_, hcl, hat⟩ := World.cells?_some hc
        obtain ⟨o, ho, hr⟩ := entry_of_cells he hcl ht'
        refine ⟨o, fun _ c u hu => ?_, hr⟩
        have hc10 : c < 10 := (Array.getElem?_eq_some_iff.1 hu).1
        have a := hat c hc10
        rw [← Go.Deep.add_add, a, ho]
        rwa [Array.getElem?_toList]
      · exact ⟨enNil, fun h => absurd h hin, enNil_reads W⟩
    obtain ⟨g, hg⟩ := Classical.axiomOfChoice each
    refine ⟨_, n, c, (List.range n).map g, rfl, ⟨hl, hm, by rw [ens_len]; simp, fun hn => ?_⟩, by simp, fun o ho => by obtain ⟨i, _, rfl⟩ := List.mem_map.1 ho; exact (hg i).2⟩
    have hc0 := (hg 0).1 (by omega) 0 _ (show (g 0).cells[0]? = some (.int .u64 ((g 0).ix : Int)) from rfl)
    obtain ⟨b, off, spot⟩ := x
    have hspot : spot = none := by simpa [Addr.add] using World.cell?_spot hc0
    subst hspot
    refine ⟨b, off, rfl, ?_, fun j u hu => ?_⟩
    · have := World.block_lt_of_cell? W _ hc0
      simpa [addOff] using this
    · obtain ⟨i, c', hi', hc', rfl, hu'⟩ := ens_range g n j u hu
      have := (hg i).1 hi' c' u hu'
      rwa [addOff] at this
end

end Go.Proofs.Ytapfggpeodpflaa

/- Slices of entries as arguments of a law, read as data. -/
import Derived.Test.YtenloljcaolkfaaBlight
namespace Go.Proofs.Ytenloljcaolkfaa
open Go.ChangeShapes Go.WideShapes Go.ChangeAt Go.RowKit
open Go.Deep (oneCellFields open_slice hone_of)

def enNil : En := ⟨0, 0, 0, 0, 0, 0, 0, 0, [], none, 0, 0, []⟩
theorem enNil_reads (W : World) : enNil.Reads W := ⟨by decide, by decide, by decide, by decide, ⟨by decide, by decide, by decide, by decide⟩, Nat.zero_le _, Rd.nil_, rfl, fun _ h => by cases h⟩
theorem ens_range (g : Nat → En) (n j : Nat) (u : Value) (h : (ens ((List.range n).map g))[j]? = some u) : ∃ i c, i < n ∧ c < 10 ∧ j = i * 10 + c ∧ (g i).cells[c]? = some u := by
  have hl : j < n * 10 := by
    have := (List.getElem?_eq_some_iff.1 h).1
    rwa [ens_len, List.length_map, List.length_range] at this
  refine ⟨j / 10, j % 10, by omega, Nat.mod_lt _ (by decide), by omega, ?_⟩
  have hi : ((List.range n).map g)[j / 10]? = some (g (j / 10)) := by
    rw [List.getElem?_map, List.getElem?_range (by omega)]
    rfl
  have hc : ∃ u', (g (j / 10)).cells[j % 10]? = some u' := ⟨_, Array.getElem?_eq_getElem (by show j % 10 < 10; exact Nat.mod_lt _ (by decide))⟩
  obtain ⟨u', hu'⟩ := hc
  have := ens_get _ _ _ hi _ _ hu'
  rw [show j / 10 * 10 + j % 10 = j from by omega, h] at this
  cases this
  exact hu'
section
variable {H : Type} {enc : TypeId × Value → H} {P : Program} {W : World} {r : Reach} {b0 : Nat} {t e : TypeId} {v : Value} {d : DataW H} {p : List MemPlace}
theorem dec_entries (ht : P.underlying t = some (.slice e)) (he : EntryT P e) (hok : Value.okWide P W r b0 t v) (h : DataW.Trod enc P W 0 (fun _ => true) true t v d p) : ∃ (A : Option Addr) (n c : Nat) (es : List En), v = .slice A n c ∧ Ents W A n c es := by
  have hC : P.cellsOf e = 10 := by obtain ⟨_, _, _, _, _, _, _, _, _, _, _, _, _, _, h, _⟩ := he; exact h
  obtain ⟨A, n, c, rfl⟩ := okWide_slice ht hok
  obtain ⟨fuel, hf⟩ := h
  rcases open_slice ht hf with ⟨hcs, _⟩ | ⟨x, l, c', m, k, D, Pl, hcs, _, hl, hm, hmm, _, hi⟩
  · simp [Value.cells] at hcs
    obtain ⟨rfl, rfl, rfl⟩ := hcs
    exact ⟨_, _, _, [], rfl, Rd.nil_, rfl, fun _ h => by cases h⟩
  · simp [Value.cells] at hcs
    obtain ⟨rfl, rfl, rfl⟩ := hcs
    simp only [if_true] at hmm
    rw [hC] at hi
    have each : ∀ i, ∃ o : En, (i < n → ∀ c u, o.cells[c]? = some u → W.cell? (x.add (i * 10 + c)) = some u) ∧ o.Reads W := by
      intro i
      by_cases hin : i < n
      · obtain ⟨cs', hc, ht'⟩ := hi i (by omega)
        obtain ⟨_, hcl, hat⟩ := World.cells?_some hc
        obtain ⟨o, ho, hr⟩ := entry_of_cells he hcl ht'
        refine ⟨o, fun _ c u hu => ?_, hr⟩
        have hc10 : c < 10 := (Array.getElem?_eq_some_iff.1 hu).1
        have a := hat c hc10
        rw [← Go.Deep.add_add, a, ho]
        rwa [Array.getElem?_toList]
      · exact ⟨enNil, fun h => absurd h hin, enNil_reads W⟩
    obtain ⟨g, hg⟩ := Classical.axiomOfChoice each
    refine ⟨_, n, c, (List.range n).map g, rfl, ⟨hl, hm, by rw [ens_len]; simp, fun hn => ?_⟩, by simp, fun o ho => by obtain ⟨i, _, rfl⟩ := List.mem_map.1 ho; exact (hg i).2⟩
    have hc0 := (hg 0).1 (by omega) 0 _ (show (g 0).cells[0]? = some (.int .u64 ((g 0).ix : Int)) from rfl)
    obtain ⟨b, off, spot⟩ := x
    have hspot : spot = none := by simpa [Addr.add] using World.cell?_spot hc0
    subst hspot
    refine ⟨b, off, rfl, ?_, fun j u hu => ?_⟩
    · have := World.block_lt_of_cell? W _ hc0
      simpa [addOff] using this
    · obtain ⟨i, c', hi', hc', rfl, hu'⟩ := ens_range g n j u hu
      have := (hg i).1 hi' c' u hu'
      rwa [addOff] at this
end

end Go.Proofs.Ytenloljcaolkfaa

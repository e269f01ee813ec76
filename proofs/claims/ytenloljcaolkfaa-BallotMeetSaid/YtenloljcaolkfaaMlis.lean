/- Lists of entries as arguments of a law, read as data. -/
import Derived.Test.YtenloljcaolkfaaSlc
namespace Go.Proofs.Ytenloljcaolkfaa
set_option maxRecDepth 20000
open Go.ChangeShapes Go.WideShapes Go.ChangeAt Go.RowKit
open Go.Deep (oneCellFields open_slice hone_of)

/-- A list of entries: where it lies, and what it holds. -/
structure Li where
  A : Option Addr
  n : Nat
  c : Nat
  es : List En
def Li.v (l : Li) : Value := .slice l.A l.n l.c
def Li.cells (l : Li) : Array Value := #[l.v]
def Li.Reads (l : Li) (w : World) : Prop := Ents w l.A l.n l.c l.es
def Li.zero : Li := ⟨none, 0, 0, []⟩
theorem Li.zero_reads (W : World) : Li.zero.Reads W := ⟨Rd.nil_, rfl, fun _ h => by cases h⟩
theorem Li.size (l : Li) : l.cells.size = 1 := rfl
def Li.lay : Lay Li 1 := ⟨Li.cells, Li.size, Li.Reads, fun _ _ _ h hb => Ents.below h hb, Li.zero, Li.zero_reads⟩
section
variable {H : Type} {enc : TypeId × Value → H} {P : Program} {W : World} {r : Reach} {b0 : Nat} {t e : TypeId} {v : Value} {d : DataW H} {p : List MemPlace}
theorem entries_of_cells {fuel : Nat} {cs : List Value} {y : DataW H × List MemPlace} (ht : P.underlying t = some (.slice e)) (he : EntryT P e) (hf : DataW.trod enc P W 0 (fun _ => true) true fuel t cs = some y) : ∃ (A : Option Addr) (n c : Nat) (es : List En), cs = [.slice A n c] ∧ Ents W A n c es := by
  have hC : P.cellsOf e = 10 := by obtain ⟨_, _, _, _, _, _, _, _, _, _, _, _, _, _, h, _⟩ := he; exact h
  rcases open_slice ht hf with ⟨hcs, _⟩ | ⟨x, n, c, m, k, D, Pl, hcs, _, hl, hm, hmm, _, hi⟩
  · subst hcs
    exact ⟨_, _, _, [], rfl, Rd.nil_, rfl, fun _ h => by cases h⟩
  · subst hcs
    simp only [if_true] at hmm
    rw [hC] at hi
    have each : ∀ i, ∃ o : En, (i < n → ∀ c u, o.cells[c]? = some u → W.cell? (x.add (i * 10 + c)) = some u) ∧ o.Reads W := by
      intro i
      by_cases hin : i < n
      · obtain ⟨cs', hc, ht'⟩ := hi i (by omega)
        obtain ⟨_, hcl, hat⟩ := World.cells?_some hc
        obtain ⟨o, ho, hr⟩ := entry_of_cells he hcl ht'
        refine ⟨o, fun _ c u hu => ?_, hr⟩
        have hc10 : c < 10 := (Array.getElem?_eq_some_iff.1 hu).1
        have a := hat c hc10
        rw [← Go.Deep.add_add, a, ho]
        rwa [Array.getElem?_toList]
      · exact ⟨enNil, fun h => absurd h hin, enNil_reads W⟩
    obtain ⟨g, hg⟩ := Classical.axiomOfChoice each
    refine ⟨_, n, c, (List.range n).map g, rfl, ⟨hl, hm, by rw [ens_len]; simp, fun hn => ?_⟩, by simp, fun o ho => by obtain ⟨i, _, rfl⟩ := List.mem_map.1 ho; exact (hg i).2⟩
    have hc0 := (hg 0).1 (by omega) 0 _ (show (g 0).cells[0]? = some (.int .u64 ((g 0).ix : Int)) from rfl)
    obtain ⟨b, off, spot⟩ := x
    have hspot : spot = none := by simpa [Addr.add] using World.cell?_spot hc0
    subst hspot
    refine ⟨b, off, rfl, ?_, fun j u hu => ?_⟩
    · have := World.block_lt_of_cell? W _ hc0
      simpa [addOff] using this
    · obtain ⟨i, c', hi', hc', rfl, hu'⟩ := ens_range g n j u hu
      have := (hg i).1 hi' c' u hu'
      rwa [addOff] at this
end
section
variable {H : Type} {enc : TypeId × Value → H} {W : World} {r : Reach} {b0 : Nat} {v : Value} {d : DataW H} {p : List MemPlace}
theorem Li.of_cells {n : Nat} {cs : List Value} {y : DataW H × List MemPlace} (h : DataW.trod enc Try.prog W 0 (fun _ => true) true n 23 cs = some y) : ∃ o : Li, cs = o.cells.toList ∧ o.Reads W := by
  obtain ⟨A, n, c, es, h1, h2⟩ := entries_of_cells Try.underlying23 entryT h
  exact ⟨⟨A, n, c, es⟩, h1, h2⟩
theorem Li.dec (hok : Value.okWide Try.prog W r b0 29 v) (h : DataW.Trod enc Try.prog W 0 (fun _ => true) true 29 v d p) : ∃ (A : Option Addr) (n c : Nat) (os : List Li), v = .slice A n c ∧ Slc Li.lay W A n c os :=
  dec_slc Try.underlying29 (by kernel_rfl) (by decide) (fun _ _ _ _ h => Li.of_cells h) hok h
end
/-- All entries, one list behind the other. -/
def flat (Ls : List Li) : List En := Ls.flatMap Li.es
theorem flat_nil : flat [] = [] := rfl
theorem flat_snoc (Ls : List Li) (i : Nat) (l : Li) (h : Ls[i]? = some l) : flat (Ls.take (i + 1)) = flat (Ls.take i) ++ l.es := by
  unfold flat
  rw [List.take_add_one, h, List.flatMap_append]
  simp
theorem flat_all (Ls : List Li) (n : Nat) (h : Ls.length ≤ n) : flat (Ls.take n) = flat Ls := by rw [List.take_of_length_le h]
end Go.Proofs.Ytenloljcaolkfaa

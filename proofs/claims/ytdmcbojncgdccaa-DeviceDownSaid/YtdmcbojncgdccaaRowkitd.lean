/- Slices of calls as arguments of a law, read as data. -/
import Derived.Test.YtdmcbojncgdccaaDoany
namespace Go.Proofs.Ytdmcbojncgdccaa
open Go.ChangeShapes Go.WideShapes Go.ChangeAt Go.RowKit
open Go.Deep (oneCellFields open_slice hone_of)

section
variable {H : Type} {enc : TypeId × Value → H} {P : Program} {W : World} {r : Reach} {b0 : Nat} {t e : TypeId} {v : Value} {d : DataW H} {p : List MemPlace}
def opNil : Opd := ⟨0, 0, 0, none, 0, 0, [], none, 0, 0, []⟩
theorem opNil_reads (W : World) : opNil.Reads W := ⟨Rd.nil_, Rd.nil_, by decide, by decide, by decide, fun _ h => by cases h⟩
theorem opsv_len (os : List Opd) : (opsv os).length = os.length * 5 := by
  induction os with
  | nil => rfl
  | cons o os ih =>
    show (o.cells.toList ++ opsv os).length = _
    rw [List.length_append, ih]
    show 5 + os.length * 5 = (os.length + 1) * 5
    omega
theorem opsv_range (g : Nat → Opd) (n j : Nat) (u : Value) (h : (opsv ((List.range n).map g))[j]? = some u) : ∃ i c, i < n ∧ c < 5 ∧ j = i * 5 + c ∧ (g i).cells[c]? = some u := by
  have hl : j < n * 5 := by
    have := (List.getElem?_eq_some_iff.1 h).1
    rwa [opsv_len, List.length_map, List.length_range] at this
  refine ⟨j / 5, j % 5, by omega, Nat.mod_lt _ (by decide), by omega, ?_⟩
  have hi : ((List.range n).map g)[j / 5]? = some (g (j / 5)) := by
    rw [List.getElem?_map, List.getElem?_range (by omega)]
    rfl
  have hc : ∃ u', (g (j / 5)).cells[j % 5]? = some u' := ⟨_, Array.getElem?_eq_getElem (by show j % 5 < 5; exact Nat.mod_lt _ (by decide))⟩
  obtain ⟨u', hu'⟩ := hc
  have := opsv_get _ _ _ hi _ _ hu'
  rw [show j / 5 * 5 + j % 5 = j from by omega, h] at this
  cases this
  exact hu'

theorem dec_ops {f0 f1 f2 f3 f4 : Field} {e1 e2 : TypeId} (ht : P.underlying t = some (.slice e)) (hs : P.underlying e = some (.struct #[f0, f1, f2, f3, f4])) (hone : oneCellFields P #[f0, f1, f2, f3, f4] = true) (hC : P.cellsOf e = 5)
    (h0 : P.underlying f0.type = some (.int .i64)) (h1 : P.underlying f1.type = some (.int .i64)) (h2 : P.underlying f2.type = some (.int .i64))
    (h3 : P.underlying f3.type = some (.slice e1)) (he1 : P.underlying e1 = some (.int .u8)) (hc1 : P.cellsOf e1 = 1) (h4 : P.underlying f4.type = some (.slice e2)) (he2 : P.underlying e2 = some (.int .i64)) (hc2 : P.cellsOf e2 = 1)
    (hok : Value.okWide P W r b0 t v) (h : DataW.Trod enc P W 0 (fun _ => true) true t v d p) : ∃ (A : Option Addr) (n c : Nat) (os : List Opd), v = .slice A n c ∧ Ops W A n c os := by
  obtain ⟨A, n, c, rfl⟩ := okWide_slice ht hok
  obtain ⟨fuel, hf⟩ := h
  rcases open_slice ht hf with ⟨hcs, _⟩ | ⟨x, l, c', m, k, D, Pl, hcs, _, hl, hm, hmm, _, hi⟩
  · simp [Value.cells] at hcs
    obtain ⟨rfl, rfl, rfl⟩ := hcs
    exact ⟨_, _, _, [], rfl, Rd.nil_, rfl, fun _ h => by cases h⟩
  · simp [Value.cells] at hcs
    obtain ⟨rfl, rfl, rfl⟩ := hcs
    simp only [if_true] at hmm
    rw [hC] at hi
    have each : ∀ i, ∃ o : Opd, (i < n → ∀ c u, o.cells[c]? = some u → W.cell? (x.add (i * 5 + c)) = some u) ∧ o.Reads W := by
      intro i
      by_cases hin : i < n
      · obtain ⟨cs', hc, ht'⟩ := hi i (by omega)
        obtain ⟨ys, n', _, _, hlen, hyl, hg⟩ := DataW.trod_struct hs ht'
        obtain ⟨_, hcl, hat⟩ := World.cells?_some hc
        match cs', hcl with
        | [c0, c1, c2, c3, c4], _ =>
          match ys, hyl with
          | [y0, y1, y2, y3, y4], _ =>
            have g0 := hg 0 f0 rfl
            have g1 := hg 1 f1 rfl
            have g2 := hg 2 f2 rfl
            have g3 := hg 3 f3 rfl
            have g4 := hg 4 f4 rfl
            obtain ⟨o0, k0⟩ := hone_of hone 0 f0 rfl
            obtain ⟨o1, k1⟩ := hone_of hone 1 f1 rfl
            obtain ⟨o2, k2⟩ := hone_of hone 2 f2 rfl
            obtain ⟨o3, k3⟩ := hone_of hone 3 f3 rfl
            obtain ⟨o4, k4⟩ := hone_of hone 4 f4 rfl
            rw [o0, k0] at g0
            rw [o1, k1] at g1
            rw [o2, k2] at g2
            rw [o3, k3] at g3
            rw [o4, k4] at g4
            obtain ⟨o, ho, hr⟩ := op_of_cells h0 h1 h2 h3 he1 hc1 h4 he2 hc2 (v0 := c0) (v1 := c1) (v2 := c2) (v3 := c3) (v4 := c4) g0 g1 g2 g3 g4
            refine ⟨o, fun _ c u hu => ?_, hr⟩
            rw [← ho] at hu
            have hc5 : c < 5 := (Array.getElem?_eq_some_iff.1 hu).1
            have a := hat c hc5
            rw [← Go.Deep.add_add]
            rw [a]
            match c, hc5 with
            | 0, _ => exact hu
            | 1, _ => exact hu
            | 2, _ => exact hu
            | 3, _ => exact hu
            | 4, _ => exact hu
      · exact ⟨opNil, fun h => absurd h hin, opNil_reads W⟩
    obtain ⟨g, hg⟩ := Classical.axiomOfChoice each
    refine ⟨_, n, c, (List.range n).map g, rfl, ⟨hl, hm, by rw [opsv_len]; simp, fun hn => ?_⟩, by simp, fun o ho => by obtain ⟨i, _, rfl⟩ := List.mem_map.1 ho; exact (hg i).2⟩
    have hc0 := (hg 0).1 (by omega) 0 _ (show (g 0).cells[0]? = some (.int .i64 (g 0).kind) from rfl)
    obtain ⟨b, off, spot⟩ := x
    have hspot : spot = none := by simpa [Addr.add] using World.cell?_spot hc0
    subst hspot
    refine ⟨b, off, rfl, ?_, fun j u hu => ?_⟩
    · have := World.block_lt_of_cell? W _ hc0
      simpa [addOff] using this
    · obtain ⟨i, c', hi', hc', rfl, hu'⟩ := opsv_range g n j u hu
      have := (hg i).1 hi' c' u hu'
      rwa [addOff] at this
end

end Go.Proofs.Ytdmcbojncgdccaa

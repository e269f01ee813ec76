/- What the arguments of a law are, read as data: pairs whose numbers fit. -/
import Derived.Test.YtlpckhjmbfeegaaRowkit
namespace Go.Proofs.Ytlpckhjmbfeegaa
open Go.ChangeShapes Go.WideShapes Go.ChangeAt Go.RowKit
open Go.Deep (oneCellFields open_slice hone_of)

section
variable {H : Type} {enc : TypeId × Value → H} {P : Program} {W : World} {r : Reach} {b0 : Nat} {t e : TypeId} {v : Value} {d : DataW H} {p : List MemPlace}

theorem dec_pairs2 {f0 f1 : Field} (ht : P.underlying t = some (.slice e)) (hs : P.underlying e = some (.struct #[f0, f1])) (hone : oneCellFields P #[f0, f1] = true) (hC : P.cellsOf e = 2) (h0 : P.underlying f0.type = some (.int .i64)) (h1 : P.underlying f1.type = some (.int .i64))
    (hok : Value.okWide P W r b0 t v) (h : DataW.Trod enc P W 0 (fun _ => true) true t v d p) :
    ∃ (A : Option Addr) (n c : Nat) (ps : List (Int × Int)), v = .slice A n c ∧ Rd W W.heap.size 2 A n c (pairs ps) ∧ ps.length = n ∧ ∀ p ∈ ps, (Lit.int .i64 p.2).wf = true := by
  obtain ⟨A, n, c, rfl⟩ := okWide_slice ht hok
  obtain ⟨fuel, hf⟩ := h
  rcases open_slice ht hf with ⟨hcs, _⟩ | ⟨x, l, c', m, k, D, Pl, hcs, _, hl, hm, hmm, _, hi⟩
  · simp [Value.cells] at hcs
    obtain ⟨rfl, rfl, rfl⟩ := hcs
    exact ⟨_, _, _, [], rfl, Rd.nil_, rfl, fun _ h => by cases h⟩
  · simp [Value.cells] at hcs
    obtain ⟨rfl, rfl, rfl⟩ := hcs
    simp only [if_true] at hmm
    rw [hC] at hi
    have each : ∀ i, ∃ q : Int × Int, (i < n → W.cell? (x.add (i * 2)) = some (.int .i64 q.1) ∧ W.cell? (x.add (i * 2 + 1)) = some (.int .i64 q.2)) ∧ (Lit.int .i64 q.2).wf = true := by
      intro i
      by_cases hin : i < n
      · obtain ⟨cs', hc, ht'⟩ := hi i (by omega)
        obtain ⟨ys, n', _, _, hlen, hyl, hfl⟩ := DataW.trod_struct hs ht'
        obtain ⟨_, hcl, hat⟩ := World.cells?_some hc
        obtain ⟨o0, k0⟩ := hone_of hone 0 f0 rfl
        obtain ⟨o1, k1⟩ := hone_of hone 1 f1 rfl
        match cs', hcl with
        | [u0, u1], _ =>
          match ys, hyl with
          | [y0, y1], _ =>
            have g0 := hfl 0 f0 rfl
            have g1 := hfl 1 f1 rfl
            rw [o0, k0] at g0
            rw [o1, k1] at g1
            obtain ⟨a, ha, _, _⟩ := DataW.trod_int h0 g0
            obtain ⟨b, hb, _, hwb⟩ := DataW.trod_int h1 g1
            cases ha
            cases hb
            have c0 := hat 0 (by decide)
            have c1 := hat 1 (by decide)
            refine ⟨(a, b), fun _ => ⟨?_, ?_⟩, hwb⟩
            · simpa [Addr.add] using c0
            · rw [← Go.Deep.add_add]; exact c1
      · exact ⟨(0, 0), fun h => absurd h hin, by decide⟩
    obtain ⟨g, hg⟩ := Classical.axiomOfChoice each
    refine ⟨_, n, c, (List.range n).map g, rfl, ⟨hl, hm, by rw [pairs_len]; simp, fun hn => ?_⟩, by simp, fun p hp => by obtain ⟨i, _, rfl⟩ := List.mem_map.1 hp; exact (hg i).2⟩
    obtain ⟨b, off, spot⟩ := x
    have hc0 := ((hg 0).1 hn).1
    have hspot : spot = none := by simpa [Addr.add] using World.cell?_spot hc0
    subst hspot
    refine ⟨b, off, rfl, ?_, fun j u hu => ?_⟩
    · have := World.block_lt_of_cell? W _ hc0
      simpa [addOff] using this
    · have hj : j < (pairs ((List.range n).map g)).length := (List.getElem?_eq_some_iff.1 hu).1
      rw [pairs_len] at hj
      simp only [List.length_map, List.length_range] at hj
      have hp := pairs_get ((List.range n).map g) (j / 2) (g (j / 2)) (by simp [show j / 2 < n by omega])
      have hq := (hg (j / 2)).1 (by omega)
      rcases Nat.mod_two_eq_zero_or_one j with hm2 | hm2
      · rw [show j / 2 * 2 = j by omega] at hp hq
        rw [hp.1] at hu
        rw [← addOff, hq.1, hu]
      · rw [show j / 2 * 2 + 1 = j by omega] at hp hq
        rw [hp.2] at hu
        rw [← addOff, hq.2, hu]
end

end Go.Proofs.Ytlpckhjmbfeegaa

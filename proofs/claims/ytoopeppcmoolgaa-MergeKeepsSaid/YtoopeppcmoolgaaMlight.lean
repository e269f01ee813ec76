/- Light of this layer, and its example. -/
import Derived.Test.YtoopeppcmoolgaaMmerge
namespace Go.Proofs.Ytoopeppcmoolgaa
open Go.RowKit
set_option maxRecDepth 20000

structure Fit (base : Nat) (Ls : List Li) : Prop where
  base : base ≤ 4611686018427387904
  len : Ls.length ≤ 7
  each : ∀ l ∈ Ls, l.es.length ≤ 20 ∧ Fitl l.es
  all : (flat Ls).length ≤ 40
theorem Fit.bn {base : Nat} {Ls : List Li} (h : Fit base Ls) : ∀ e ∈ flat Ls, e.bn ≤ 200 := fun e he => by
  unfold flat at he
  obtain ⟨l, hl, he⟩ := List.mem_flatMap.1 he
  exact ((h.each l hl).2.2 e he).2
set_option maxHeartbeats 4000000 in
theorem light23 {w : World} {A : Option Addr} {n c : Nat} {Ls : List Li} (h : Slc Li.lay w A n c Ls) (base : Nat) (hb : base < 18446744073709551616) :
    Calls Try.prog 7 #[.int .u64 (base : Int), .slice A n c] w (LAns w (Fit base Ls)) := by
  have hcap := h.rd.2.1
  have hnc := h.rd.1
  have hnm : (n : Int) ≤ 9223372036854775807 := by unfold maxLen at hcap; omega
  have HH := Lib.hid h
  have hbi : (base : Int) ≤ 18446744073709551615 := by omega
  clear h hcap hnc hb
  go_enter Try.func7, Try.ntmps7
  go_wp2
  go_loopw [5, 7, 10] (fun nv _ ir wr => ∃ (i : Nat), i ≤ n ∧ ir = .int .i64 (i : Int) ∧ nv = .int .i64 (((flat (Ls.take i)).length : Nat) : Int) ∧ (flat (Ls.take i)).length ≤ 40 ∧ Hid (∀ j l, j < i → Ls[j]? = some l → l.es.length ≤ 20 ∧ Fitl l.es) ∧ Hid (Below w.heap.size w wr)) (fun _ _ ir _ => n - (intOf ir).toNat)
  case atStart => exact ⟨0, Nat.zero_le _, rfl, rfl, Nat.zero_le _, Lib.hid (fun j o hj => absurd hj (Nat.not_lt_zero _)), Lib.hid (Below.refl _ _)⟩
  case round =>
    obtain ⟨i, hi, rfl, rfl, h40, HA, HB⟩ := hrel
    by_cases hlt : i < n
    · obtain ⟨p0, hp⟩ : ∃ p0, Ls[i]? = some p0 := ⟨_, List.getElem?_eq_getElem (by have := HH.out.len; omega)⟩
      obtain ⟨b, o, rfl, hbb, hcc⟩ := HH.out.at_ (by omega)
      have hrd : Ents w p0.A p0.n p0.c p0.es := HH.out.reads p0 (List.mem_of_getElem? hp)
      have k0 : wr.cell? ⟨b, o + i, none⟩ = some (.slice p0.A p0.n p0.c) := (HB.out.cell (p := ⟨b, o + i, none⟩) hbb).trans (by have := hcc i p0 hp 0 (.slice p0.A p0.n p0.c) rfl; rwa [Nat.mul_one, Nat.add_zero] at this)
      have HL10 := Lib.hid (light10 (hrd.below HB.out))
      have hsn : (flat (Ls.take (i + 1))).length = (flat (Ls.take i)).length + p0.n := by rw [flat_snoc Ls i p0 hp, List.length_append, hrd.len]
      have HN := Lib.hid hsn
      have HP := Lib.hid hp
      have HPL := Lib.hid hrd.len
      have hlti : (i : Int) < (n : Int) := by omega
      have hin : (i : Int) ≤ 9223372036854775806 := by omega
      clear hcc hp hrd hsn
      obtain ⟨A1, n1, c1, es1⟩ := p0
      dsimp only at *
      generalize (flat (Ls.take i)).length = t at *
      have ht : (t : Int) ≤ 40 := by omega
      by_cases h20 : n1 ≤ 20
      · have g1 : ¬ 20 < n1 := by omega
        have g3 : (n1 : Int) ≤ 20 := by omega
        by_cases hs : t + n1 ≤ 40
        · have g2 : ¬ (40 : Int) < (t : Int) + (n1 : Int) := by omega
          go_wp2_with (first
            | (go_at_call 8; refine HL10.out.mono ?_; rintro e w1 ⟨b1, rfl, hf1, hb1⟩
               have HF1 := Lib.hid hf1
               have HB1 := Lib.hid (HB.out.trans (hb1.mono HB.out.size))
               clear hf1 hb1
               cases b1)
            | fail)
          · go_ret
            exact ⟨_, rfl, (fun h => by cases h), HB1.out⟩
          · go_roundw
            case rel => exact ⟨i + 1, by omega, by go_num, by rw [HN.out]; go_num, by rw [HN.out]; exact hs, Lib.hid (fun j o hj ho => by
              rcases Nat.lt_or_ge j i with h1 | h1
              · exact HA.out j o h1 ho
              · obtain rfl : j = i := by omega
                rw [HP.out] at ho
                cases ho
                exact ⟨by show es1.length ≤ 20; rw [HPL.out]; exact h20, HF1.out trivial⟩), HB1⟩
            case measure => simp [intOf]; omega
        · have g2 : (40 : Int) < (t : Int) + (n1 : Int) := by omega
          go_wp2
          go_ret
          exact ⟨_, rfl, (fun h => by cases h), HB.out⟩
      · have g1 : 20 < n1 := by omega
        go_wp2
        go_ret
        exact ⟨_, rfl, (fun h => by cases h), HB.out⟩
    · obtain rfl : i = n := by omega
      rw [flat_all Ls i (by have := HH.out.len; omega)] at h40
      have hall : ∀ l ∈ Ls, l.es.length ≤ 20 ∧ Fitl l.es := fun l hl => by
        obtain ⟨j, hj⟩ := List.getElem?_of_mem hl
        exact HA.out j l (by have h1 := (List.getElem?_eq_some_iff.1 hj).1; have := HH.out.len; omega) hj
      have HALL := Lib.hid hall
      have H40 := Lib.hid h40
      clear hall h40
      generalize (flat (Ls.take i)).length = t at *
      by_cases h7 : i ≤ 7
      · by_cases h62 : base ≤ 4611686018427387904
        · go_wp2
          go_ret
          exact ⟨_, rfl, fun _ => ⟨h62, by have := HH.out.len; omega, HALL.out, H40.out⟩, HB.out⟩
        · have q2 : decide (base ≤ 4611686018427387904) = false := by simpa using h62
          go_wp2
          go_ret
          exact ⟨_, rfl, (fun h => by first | omega | (simp at h; done) | (simp at h; omega)), HB.out⟩
      · have q1 : decide (i ≤ 7) = false := by simpa using h7
        go_wp2
        go_ret
        exact ⟨_, rfl, (fun h => by first | (simp at h; done) | (simp at h; omega)), HB.out⟩

end Go.Proofs.Ytoopeppcmoolgaa

/- The reference: all entries in one row; what is void. -/
import Derived.Test.YtoopeppcmoolgaaMkit
namespace Go.Proofs.Ytoopeppcmoolgaa
open Go.RowKit
set_option maxRecDepth 20000

/-- What flat tells: a row of one's own. -/
structure Flat (w : World) (A : Option Addr) (n c : Nat) (es : List En) (w' : World) : Prop where
  ents : Ents w' A n c es
  bel : Below w.heap.size w w'
  lo : ∀ x, A = some x → w.heap.size ≤ x.block
set_option maxHeartbeats 4000000 in
theorem flat_any {w : World} {A : Option Addr} {n c : Nat} {Ls : List Li} (h : Slc Li.lay w A n c Ls) (hl : (flat Ls).length ≤ 1000) :
    Calls Try.prog 25 #[.slice A n c] w fun r w' => ∃ A' n' c', r = .returned (.slice A' n' c') ∧ Flat w A' n' c' (flat Ls) w' := by
  have hcap := h.rd.2.1
  have hnc := h.rd.1
  have hnm : (n : Int) ≤ 9223372036854775807 := by unfold maxLen at hcap; omega
  have HH := Lib.hid h
  have HL := Lib.hid hl
  clear h hcap hnc hl
  go_enter Try.func25, Try.ntmps25
  go_wp2
  go_loopw [3, 4] (fun ov ir wr => ∃ (i : Nat), i ≤ n ∧ ir = .int .i64 (i : Int) ∧ wr.ownsRow w.heap.size 29 10 ov (flat (Ls.take i)).length (ens (flat (Ls.take i))) ∧ Below w.heap.size w wr) (fun _ ir _ => n - (intOf ir).toNat)
  case atStart => exact ⟨0, Nat.zero_le _, rfl, World.ownsRow_nil w _ _ _, Below.refl _ _⟩
  case round =>
    obtain ⟨i, hi, rfl, hown, hb⟩ := hrel
    have HB := Lib.hid hb
    have HO := Lib.hid hown
    clear hb hown
    by_cases hlt : i < n
    · obtain ⟨p0, hp⟩ : ∃ p0, Ls[i]? = some p0 := ⟨_, List.getElem?_eq_getElem (by have := HH.out.len; omega)⟩
      obtain ⟨b, o, rfl, hbb, hcc⟩ := HH.out.at_ (by omega)
      have hrd : Ents w p0.A p0.n p0.c p0.es := HH.out.reads p0 (List.mem_of_getElem? hp)
      have k0 : wr.cell? ⟨b, o + i, none⟩ = some (.slice p0.A p0.n p0.c) := (HB.out.cell (p := ⟨b, o + i, none⟩) hbb).trans (by have := hcc i p0 hp 0 (.slice p0.A p0.n p0.c) rfl; rwa [Nat.mul_one, Nat.add_zero] at this)
      have hsn := flat_snoc Ls i p0 hp
      have hle : (flat (Ls.take (i + 1))).length ≤ (flat Ls).length := by
        have : flat Ls = flat (Ls.take (i + 1)) ++ flat (Ls.drop (i + 1)) := by
          unfold flat
          rw [← List.flatMap_append, List.take_append_drop]
        rw [this, List.length_append]
        omega
      have hpn : (flat (Ls.take i)).length + p0.n ≤ 1000 := by
        rw [hsn, List.length_append, hrd.len] at hle
        have := HL.out
        omega
      have hsrc := ((hrd.below HB.out).rd.src (tx := 32) Try.underlying32 (ens_one _))
      have HS := Lib.hid hsrc
      have HN := Lib.hid hsn
      have HPL := Lib.hid hrd.len
      have hlti : (i : Int) < (n : Int) := by omega
      have hin : (i : Int) ≤ 9223372036854775806 := by omega
      clear hcc hp hrd hsn hle hsrc
      obtain ⟨A1, n1, c1, es1⟩ := p0
      dsimp only at *
      obtain ⟨m, hm⟩ : ∃ m, (flat (Ls.take i)).length = m := ⟨_, rfl⟩
      rw [hm] at HO hpn
      have HM := Lib.hid hm
      clear hm
      obtain ⟨A0, c0, rfl⟩ := ownsRow_form HO.out
      go_wp2_with (first
        | (at_builtin; refine wpL_app (o := ⟨some 16, _, _, _, _, _⟩) (v := .slice A0 m c0) (y := .slice A1 n1 c1) rfl (.tmp 11) (.tmp 15) _ _ rfl E_en rfl rfl HO.out HS.out (by unfold maxLen; omega) (by omega) (by have := HB.out.size; omega) ?_; intro v3 w3 hown3 hg3 hat3)
        | fail)
      go_roundw
      case rel => exact ⟨i + 1, by omega, by go_num, by rw [HN.out, List.length_append, ens_app, HM.out, HPL.out]; exact hown3, HB.out.grown hg3 HB.out.size (fun j e => (HO.out.lt j e).1)⟩
      case measure => simp [intOf]; omega
    · obtain rfl : i = n := by omega
      have HF := Lib.hid HO.out
      rw [flat_all Ls i (by have := HH.out.len; omega)] at HF
      obtain ⟨A0, c0, rfl⟩ := ownsRow_form HF.out
      go_wp2
      go_ret
      exact ⟨_, _, _, rfl, ⟨ownsRow_rd HF.out, rfl, fun e he => by
        unfold flat at he
        obtain ⟨l, hl, he⟩ := List.mem_flatMap.1 he
        exact ((HH.out.reads l hl).reads e he).below HB.out⟩, HB.out, fun x e => (HF.out.lt x.block (by rw [e]; rfl)).1⟩
end Go.Proofs.Ytoopeppcmoolgaa

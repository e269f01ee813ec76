/- What is asked of a client: closures, asks, Has, Old. -/
import Derived.Test.YtlbjbkhnicbibaaTab
namespace Go.Proofs.Ytlbjbkhnicbibaa
open Go.RowKit

def Tok (T : List Cl) : Prop := T.length = 8 ∧ ∀ p ∈ T, Cl.ok p
def at8 (T : List Cl) (c : Nat) (f : Cl → Bool) : Bool := decide (1 ≤ c ∧ c ≤ 8) && f (T.getD (c - 1) (0, 0))
theorem Tok.get {T : List Cl} (h : Tok T) (i : Nat) : (T.getD i (0, 0)).ok := by
  rw [List.getD]
  cases hi : T[i]? with
  | none => exact ⟨by decide, by decide⟩
  | some p => exact h.2 p (List.mem_of_getElem? hi)
theorem Tok.at_ {T : List Cl} (h : Tok T) {c : Nat} (h8 : 1 ≤ c ∧ c ≤ 8) : T[c - 1]? = some (T.getD (c - 1) (0, 0)) := by
  have : c - 1 < T.length := by have := h.1; omega
  rw [List.getD, List.getElem?_eq_getElem this]; rfl
theorem at8_in {T : List Cl} {c : Nat} (h8 : 1 ≤ c ∧ c ≤ 8) (f : Cl → Bool) : at8 T c f = f (T.getD (c - 1) (0, 0)) := by simp [at8, h8]
theorem at8_out {T : List Cl} {c : Nat} (h8 : ¬ (1 ≤ c ∧ c ≤ 8)) (f : Cl → Bool) : at8 T c f = false := by simp [at8, h8]

theorem has1_any (p : Cl) (r g : Nat) (w : World) (hp : p.ok) (hr : r < 18446744073709551616) (hc : w.cell? ⟨g, 0, none⟩ = some (.int .u64 (r : Int))) :
    Calls Try.prog 28 #[clv p, .pointer (some ⟨g, 0, none⟩)] w fun e w' => e = .returned (.bool (hasN p r)) ∧ Below w.heap.size w w' := by
  have hh := fun W => has14_any p r W hp hr
  have hc1 := fun o => cell_old (w := w) o hc
  clear hr
  unfold clv at hh ⊢
  go_enter Try.func28, Try.ntmps28
  go_wp2_with fail
  refine (hh _).mono ?_
  rintro e w1 ⟨rfl, hb1⟩
  go_wp2
  go_ret
  exact ⟨rfl, unal hb1⟩

theorem old1_any (p : Cl) (r g : Nat) (w : World) (hp : p.ok) (hc : w.cell? ⟨g, 0, none⟩ = some (.int .u64 (r : Int))) :
    Calls Try.prog 31 #[clv p, .pointer (some ⟨g, 0, none⟩)] w fun e w' => e = .returned (.bool (oldN p.1 r)) ∧ Below w.heap.size w w' := by
  have hh := fun W => old_any p r W hp
  have hc1 := fun o => cell_old (w := w) o hc
  skip
  unfold clv at hh ⊢
  go_enter Try.func31, Try.ntmps31
  go_wp2_with fail
  refine (hh _).mono ?_
  rintro e w1 ⟨rfl, hb1⟩
  go_wp2
  go_ret
  exact ⟨rfl, unal hb1⟩

theorem add1_any (p : Cl) (r g : Nat) (w : World) (hp : p.ok) (hc : w.cell? ⟨g, 0, none⟩ = some (.int .u64 (r : Int))) :
    Calls Try.prog 24 #[clv p, .pointer (some ⟨g, 0, none⟩)] w fun e w' => e = .returned (.bool (!oldN p.1 r)) ∧ Below w.heap.size w w' := by
  have hh := fun W => old_any p r W hp
  have hc1 := fun o => cell_old (w := w) o hc
  skip
  unfold clv at hh ⊢
  go_enter Try.func24, Try.ntmps24
  go_wp2_with fail
  refine (hh _).mono ?_
  rintro e w1 ⟨rfl, hb1⟩
  go_wp2
  go_ret
  exact ⟨rfl, unal hb1⟩

set_option maxHeartbeats 1000000 in
theorem asks_has (T : List Cl) (c r g : Nat) (w : World) (hT : Tok T) (hr : r < 18446744073709551616) (hc : w.cell? ⟨g, 0, none⟩ = some (.int .u64 (r : Int))) (hg : g < w.heap.size) :
    Calls Try.prog 23 #[tbv T, .int .u64 (c : Int), .func (.func 28) #[] #[.pointer (some ⟨g, 0, none⟩)]] w fun e w' => e = .returned (.bool (at8 T c fun p => hasN p r)) ∧ Below w.heap.size w w' := by
  by_cases h8 : 1 ≤ c ∧ c ≤ 8
  · have hi := hT.at_ h8
    have hfin := at8_in (T := T) h8 (fun p => hasN p r)
    rw [hfin]
    have hok := hT.get (c - 1)
    generalize T.getD (c - 1) (0, 0) = p at *
    obtain ⟨g0, g1⟩ := tcells_get T _ _ hi
    have hh := fun (W : World) (hb : Below w.heap.size w W) => has1_any p r g W hok hr ((hb.cell (p := ⟨g, 0, none⟩) hg).trans hc)
    obtain ⟨h1, h2⟩ := h8
    have HH := Lib.hid hh
    clear hfin hi hc hh hr
    unfold clv at HH
    go_enter Try.func23, Try.ntmps23
    go_wp2_with (first
      | (refine wpL_tbox rfl (.tmp 0) rfl rfl ?_; intro W b hN; obtain ⟨hb, hr, hbl, hz⟩ := hN
         have k0 : W.cell? ⟨b, (c - 1) * 2, none⟩ = some (.int .u64 (p.1 : Int)) := by rw [cell_of_row W b _ _ _ _ hr.out]; simpa using g0
         have k1 : W.cell? ⟨b, (c - 1) * 2 + 1, none⟩ = some (.int .u16 (p.2 : Int)) := by rw [cell_of_row W b _ _ _ _ hr.out]; simpa using g1)
      | (go_at_call 28; refine (HH.out _ hbl).mono ?_; rintro e w1 ⟨rfl, hb1⟩)
      | fail)
    go_ret
    exact ⟨rfl, hbl.trans (hb1.mono hbl.size)⟩
  · have hfin := at8_out (T := T) h8 (fun p => hasN p r)
    rcases Nat.lt_or_ge c 1 with h1 | h1
    · obtain rfl : c = 0 := by omega
      rw [hfin]
      clear h8 hfin hg hc hT
      go_enter Try.func23, Try.ntmps23
      go_wp2_with (first
        | (refine wpL_tbox rfl (.tmp 0) rfl rfl ?_; intro W b hN; obtain ⟨hb, hr, hbl, hz⟩ := hN)
        | fail)
      go_ret
      exact ⟨rfl, hbl⟩
    · have h2 : ¬ (c : Int) ≤ 8 := by omega
      have h3 : 1 ≤ (c : Int) := by omega
      clear h1
      rw [hfin]
      clear h8 hfin hg hc hT
      go_enter Try.func23, Try.ntmps23
      go_wp2_with (first
        | (refine wpL_tbox rfl (.tmp 0) rfl rfl ?_; intro W b hN; obtain ⟨hb, hr, hbl, hz⟩ := hN)
        | fail)
      go_ret
      exact ⟨rfl, hbl⟩

set_option maxHeartbeats 1000000 in
theorem asks_old (T : List Cl) (c r g : Nat) (w : World) (hT : Tok T) (hc : w.cell? ⟨g, 0, none⟩ = some (.int .u64 (r : Int))) (hg : g < w.heap.size) :
    Calls Try.prog 23 #[tbv T, .int .u64 (c : Int), .func (.func 31) #[] #[.pointer (some ⟨g, 0, none⟩)]] w fun e w' => e = .returned (.bool (at8 T c fun p => oldN p.1 r)) ∧ Below w.heap.size w w' := by
  by_cases h8 : 1 ≤ c ∧ c ≤ 8
  · have hi := hT.at_ h8
    have hfin := at8_in (T := T) h8 (fun p => oldN p.1 r)
    rw [hfin]
    have hok := hT.get (c - 1)
    generalize T.getD (c - 1) (0, 0) = p at *
    obtain ⟨g0, g1⟩ := tcells_get T _ _ hi
    have hh := fun (W : World) (hb : Below w.heap.size w W) => old1_any p r g W hok ((hb.cell (p := ⟨g, 0, none⟩) hg).trans hc)
    obtain ⟨h1, h2⟩ := h8
    have HH := Lib.hid hh
    clear hfin hi hc hh
    unfold clv at HH
    go_enter Try.func23, Try.ntmps23
    go_wp2_with (first
      | (refine wpL_tbox rfl (.tmp 0) rfl rfl ?_; intro W b hN; obtain ⟨hb, hr, hbl, hz⟩ := hN
         have k0 : W.cell? ⟨b, (c - 1) * 2, none⟩ = some (.int .u64 (p.1 : Int)) := by rw [cell_of_row W b _ _ _ _ hr.out]; simpa using g0
         have k1 : W.cell? ⟨b, (c - 1) * 2 + 1, none⟩ = some (.int .u16 (p.2 : Int)) := by rw [cell_of_row W b _ _ _ _ hr.out]; simpa using g1)
      | (go_at_call 31; refine (HH.out _ hbl).mono ?_; rintro e w1 ⟨rfl, hb1⟩)
      | fail)
    go_ret
    exact ⟨rfl, hbl.trans (hb1.mono hbl.size)⟩
  · have hfin := at8_out (T := T) h8 (fun p => oldN p.1 r)
    rcases Nat.lt_or_ge c 1 with h1 | h1
    · obtain rfl : c = 0 := by omega
      rw [hfin]
      clear h8 hfin hg hc hT
      go_enter Try.func23, Try.ntmps23
      go_wp2_with (first
        | (refine wpL_tbox rfl (.tmp 0) rfl rfl ?_; intro W b hN; obtain ⟨hb, hr, hbl, hz⟩ := hN)
        | fail)
      go_ret
      exact ⟨rfl, hbl⟩
    · have h2 : ¬ (c : Int) ≤ 8 := by omega
      have h3 : 1 ≤ (c : Int) := by omega
      clear h1
      rw [hfin]
      clear h8 hfin hg hc hT
      go_enter Try.func23, Try.ntmps23
      go_wp2_with (first
        | (refine wpL_tbox rfl (.tmp 0) rfl rfl ?_; intro W b hN; obtain ⟨hb, hr, hbl, hz⟩ := hN)
        | fail)
      go_ret
      exact ⟨rfl, hbl⟩

set_option maxHeartbeats 1000000 in
theorem asks_add (T : List Cl) (c r g : Nat) (w : World) (hT : Tok T) (hc : w.cell? ⟨g, 0, none⟩ = some (.int .u64 (r : Int))) (hg : g < w.heap.size) :
    Calls Try.prog 23 #[tbv T, .int .u64 (c : Int), .func (.func 24) #[] #[.pointer (some ⟨g, 0, none⟩)]] w fun e w' => e = .returned (.bool (at8 T c fun p => !oldN p.1 r)) ∧ Below w.heap.size w w' := by
  by_cases h8 : 1 ≤ c ∧ c ≤ 8
  · have hi := hT.at_ h8
    have hfin := at8_in (T := T) h8 (fun p => !oldN p.1 r)
    rw [hfin]
    have hok := hT.get (c - 1)
    generalize T.getD (c - 1) (0, 0) = p at *
    obtain ⟨g0, g1⟩ := tcells_get T _ _ hi
    have hh := fun (W : World) (hb : Below w.heap.size w W) => add1_any p r g W hok ((hb.cell (p := ⟨g, 0, none⟩) hg).trans hc)
    obtain ⟨h1, h2⟩ := h8
    have HH := Lib.hid hh
    clear hfin hi hc hh
    unfold clv at HH
    go_enter Try.func23, Try.ntmps23
    go_wp2_with (first
      | (refine wpL_tbox rfl (.tmp 0) rfl rfl ?_; intro W b hN; obtain ⟨hb, hr, hbl, hz⟩ := hN
         have k0 : W.cell? ⟨b, (c - 1) * 2, none⟩ = some (.int .u64 (p.1 : Int)) := by rw [cell_of_row W b _ _ _ _ hr.out]; simpa using g0
         have k1 : W.cell? ⟨b, (c - 1) * 2 + 1, none⟩ = some (.int .u16 (p.2 : Int)) := by rw [cell_of_row W b _ _ _ _ hr.out]; simpa using g1)
      | (go_at_call 24; refine (HH.out _ hbl).mono ?_; rintro e w1 ⟨rfl, hb1⟩)
      | fail)
    go_ret
    exact ⟨rfl, hbl.trans (hb1.mono hbl.size)⟩
  · have hfin := at8_out (T := T) h8 (fun p => !oldN p.1 r)
    rcases Nat.lt_or_ge c 1 with h1 | h1
    · obtain rfl : c = 0 := by omega
      rw [hfin]
      clear h8 hfin hg hc hT
      go_enter Try.func23, Try.ntmps23
      go_wp2_with (first
        | (refine wpL_tbox rfl (.tmp 0) rfl rfl ?_; intro W b hN; obtain ⟨hb, hr, hbl, hz⟩ := hN)
        | fail)
      go_ret
      exact ⟨rfl, hbl⟩
    · have h2 : ¬ (c : Int) ≤ 8 := by omega
      have h3 : 1 ≤ (c : Int) := by omega
      clear h1
      rw [hfin]
      clear h8 hfin hg hc hT
      go_enter Try.func23, Try.ntmps23
      go_wp2_with (first
        | (refine wpL_tbox rfl (.tmp 0) rfl rfl ?_; intro W b hN; obtain ⟨hb, hr, hbl, hz⟩ := hN)
        | fail)
      go_ret
      exact ⟨rfl, hbl⟩


theorem has8_any (T : List Cl) (c r : Nat) (w : World) (hT : Tok T) (hr : r < 18446744073709551616) :
    Calls Try.prog 10 #[tbv T, .int .u64 (c : Int), .int .u64 (r : Int)] w fun e w' => e = .returned (.bool (at8 T c fun p => hasN p r)) ∧ Below w.heap.size w w' := by
  have hh := fun W g hc hg => asks_has T c r g W hT hr hc hg
  have HT := Lib.hid hT.1
  have HH := Lib.hid hh
  generalize (at8 T c fun p => hasN p r) = X at *
  clear hh hT hr
  go_enter Try.func10, Try.ntmps10
  go_wp2_with (first
    | (refine wpL_tbox rfl (.tmp 0) rfl rfl ?_; intro W b hN; obtain ⟨hb, hr, hbl, hz⟩ := hN; have hr2 := fun o => row_old o hr.out)
    | (refine tabA.wpLoad rfl (.tmp 3) rfl rfl (hr2 _) HT.out ?_)
    | (go_at_call 23; refine (HH.out _ _ (cell_of_row _ _ 0 _ _ _ (heap_alloc_new W _)) (by simp)).mono ?_; rintro e w1 ⟨rfl, hb1⟩)
    | fail)
  go_ret
  exact ⟨rfl, hbl.trans ((unal hb1).mono hbl.size)⟩


theorem old8_any (T : List Cl) (c r : Nat) (w : World) (hT : Tok T) :
    Calls Try.prog 12 #[tbv T, .int .u64 (c : Int), .int .u64 (r : Int)] w fun e w' => e = .returned (.bool (at8 T c fun p => oldN p.1 r)) ∧ Below w.heap.size w w' := by
  have hh := fun W g hc hg => asks_old T c r g W hT hc hg
  have HT := Lib.hid hT.1
  have HH := Lib.hid hh
  generalize (at8 T c fun p => oldN p.1 r) = X at *
  clear hh hT
  go_enter Try.func12, Try.ntmps12
  go_wp2_with (first
    | (refine wpL_tbox rfl (.tmp 0) rfl rfl ?_; intro W b hN; obtain ⟨hb, hr, hbl, hz⟩ := hN; have hr2 := fun o => row_old o hr.out)
    | (refine tabA.wpLoad rfl (.tmp 3) rfl rfl (hr2 _) HT.out ?_)
    | (go_at_call 23; refine (HH.out _ _ (cell_of_row _ _ 0 _ _ _ (heap_alloc_new W _)) (by simp)).mono ?_; rintro e w1 ⟨rfl, hb1⟩)
    | fail)
  go_ret
  exact ⟨rfl, hbl.trans ((unal hb1).mono hbl.size)⟩


end Go.Proofs.Ytlbjbkhnicbibaa

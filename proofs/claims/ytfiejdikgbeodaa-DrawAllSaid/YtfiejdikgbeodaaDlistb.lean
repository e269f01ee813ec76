/- listed over a Source's numbers. -/
import Derived.Test.YtfiejdikgbeodaaDlist
namespace Go.Proofs.Ytfiejdikgbeodaa
open Go.RowKit
attribute [local go_sem] Oper.semAt_some

set_option maxHeartbeats 2000000 in
set_option maxRecDepth 8000 in
theorem listed_b {B : Nat} {w : World} (p : Option Addr) (l : List UInt8) (b1 b2 b3 K : Nat) (cnt N : Int) (hN : (Lit.int .i64 N).wf = true) (hS : Sr B 61 w p l)
    (hK : K = (min cnt 65536).toNat) (hlt : b1 < w.heap.size ∧ b2 < w.heap.size ∧ b3 < w.heap.size)
    (c1 : w.cell? ⟨b1, 0, none⟩ = some (.int .i64 cnt)) (c2 : w.cell? ⟨b2, 0, none⟩ = some (.pointer p)) (c3 : w.cell? ⟨b3, 0, none⟩ = some (.int .i64 N))
    (hp : ∀ g, gof p = some g → g < w.heap.size ∧ g ≠ b1 ∧ g ≠ b2 ∧ g ≠ b3) :
    Calls Try.prog 57 #[.func (.func 79) #[] #[.pointer (some ⟨b1, 0, none⟩), .pointer (some ⟨b2, 0, none⟩), .pointer (some ⟨b3, 0, none⟩)], .func (.func 60) #[] #[]] w
      fun e w' => ∃ v, e = .returned v ∧ w'.ownsRow w.heap.size 5 1 v K ((numsL N K l).map fun x : Nat => .int .u8 (IntKind.u8.wrap (97 + IntKind.u8.wrap (x : Int)))) ∧ Sr B 61 w' p (l.drop (K * numUsed N)) ∧ w.grownBy w' (gof p) := by
  have HKK := Lib.hid hK
  clear hK
  refine (callsIn_wide (n := 9)).1 ?_
  refine callsIn_of_wp_marks Try.func57 rfl trivial ?_ rfl
  simp only [Try.ntmps57, List.size_toArray, List.length_nil, List.length_cons, Nat.reduceAdd, Nat.reduceSub, Array.replicate_succ, Array.replicate_zero, List.push_toArray, List.append_toArray, List.nil_append, List.cons_append]
  gi_wp2
  obtain ⟨W0, hW0, hz0, hr0, hr1, hb0⟩ := boxes2 w #[.func (.func 60) #[] #[]] #[.slice none 0 0] 89 23
  rw [← hW0]
  clear hW0
  have hg0 : w.grownBy W0 (gof p) := ⟨hb0.os, hb0.tape, hb0.output, hb0.size, fun i hi _ => hb0.block i hi⟩
  have kc : ∀ W, w.grownBy W (gof p) → ∀ b u, b < w.heap.size → (∀ g, gof p = some g → g ≠ b) → w.cell? ⟨b, 0, none⟩ = some u → W.cell? ⟨b, 0, none⟩ = some u := by
    intro W hg b u hb hne hc
    unfold World.cell? at hc ⊢
    rw [hg.block b hb (fun e => hne b e.symm rfl)]
    exact hc
  refine wpIn_rangeJ rfl (by omega) (gf := 79) (lb := #[.pointer (some ⟨b1, 0, none⟩), .pointer (some ⟨b2, 0, none⟩), .pointer (some ⟨b3, 0, none⟩)]) rfl trivial (enters_of Try.func79 (by kernel_rfl) rfl)
    (encs := fun x : Nat => #[.int .i64 (x : Int)]) (fun _ => rfl)
    (fun k => LJ B w 23 89 5 (.func (.func 60) #[] #[]) p l N (fun x : Nat => .int .u8 (IntKind.u8.wrap (97 + IntKind.u8.wrap (x : Int)))) k k)
    (fun k x W => x = numOf N (l.drop (k * numUsed N)) ∧ LJ B w 23 89 5 (.func (.func 60) #[] #[]) p l N (fun x : Nat => .int .u8 (IntKind.u8.wrap (97 + IntKind.u8.wrap (x : Int)))) (k + 1) k W)
    (fun _ _ => False) K ?hJ ?hJ' (fun _ _ _ _ h _ _ => h) ?h0 ?hiter
    (fun x => { tmps := #[.func (.func 79) #[] #[.pointer (some ⟨b1, 0, none⟩), .pointer (some ⟨b2, 0, none⟩), .pointer (some ⟨b3, 0, none⟩)], .func (.func 60) #[] #[], undef, .pointer (some ⟨w.heap.size, 0, none⟩), .slice none 0 0, .pointer (some ⟨w.heap.size + 1, 0, none⟩), .int .i64 (x : Int), .func (.func 79) #[] #[.pointer (some ⟨b1, 0, none⟩), .pointer (some ⟨b2, 0, none⟩), .pointer (some ⟨b3, 0, none⟩)], .int .i64 (x : Int), undef, undef, undef, undef, undef, undef, undef], defers := [] })
    ?assign ?body ?done (fun _ _ h _ => h.elim)
  case hJ =>
    rw [hz0]
    exact fun k => LJ.robust fun g hg => (hp g hg).1
  case hJ' =>
    rw [hz0]
    exact fun k x W r o h hr hl => ⟨h.1, LJ.robust (fun g hg => (hp g hg).1) W r o h.2 hr hl⟩
  case h0 =>
    intro o o'
    refine ⟨.slice none 0 0, ?_, ?_, World.ownsRow_nil _ _ _ _, ?_, ?_⟩
    · exact row_old _ (row_old _ hr0)
    · exact row_old _ (row_old _ hr1)
    · rw [Nat.zero_mul, List.drop_zero]
      exact ((hS.below hb0).below ((Below.refl _ _).alloc (Nat.le_refl _) _)).below ((Below.refl _ _).alloc (Nat.le_refl _) _)
    · exact grownBy_trans (grownBy_trans hg0 (World.grownBy_alloc W0 o none) (.inr fun _ e => by cases e)) (World.grownBy_alloc _ o' none) (.inr fun _ e => by cases e)
  case hiter =>
    intro l0 R Rx hR hY hRs hRx W hJ0 hR0
    refine (nums1_in 8 l0 b1 b2 b3 K cnt N p (fun k => LJ B w 23 89 5 (.func (.func 60) #[] #[]) p l N (fun x : Nat => .int .u8 (IntKind.u8.wrap (97 + IntKind.u8.wrap (x : Int)))) k k) R (by omega) HKK.out ?_ ?_ W hJ0 hR0).mono ?_
    · rintro k W ⟨v, _, _, _, _, hg⟩ _
      exact ⟨kc W hg b1 _ hlt.1 (fun g hg => (hp g hg).2.1) c1, kc W hg b2 _ hlt.2.1 (fun g hg => (hp g hg).2.2.1) c2, kc W hg b3 _ hlt.2.2 (fun g hg => (hp g hg).2.2.2) c3⟩
    · rintro k W hk ⟨v, h1, h2, h3, h4, h5⟩ hRW
      have hsz := hRs W hRW
      refine (num_of N hN h4).mono ?_
      rintro e W' ⟨rfl, hS', hg'⟩
      have hpne : ∀ r, gof p = some r → r < w.heap.size := fun r hr => (hp r hr).1
      refine ⟨_, rfl, ?_⟩
      have hk' : KeepsRec W0.heap.size W W' := KeepsRec.grown hg' hsz (fun r hr => by have := hpne r hr; omega)
      obtain ⟨fn, tmps, assign, body, hy, hRd⟩ := hY k (numOf N (l.drop (k * numUsed N))) W' hk ⟨rfl, v, row_far h1 hg' (fun e => by have := hpne _ e.symm; omega), row_far h2 hg' (fun e => by have := hpne _ e.symm; omega),
        h3.kept hg' (by
          cases hk : v.ownBlock with
          | none => exact .inl rfl
          | some q => exact .inr (fun e => by have := (h3.lt q hk).1; have := hpne q e.symm; omega)),
        by rw [List.drop_drop, ← Nat.succ_mul] at hS'; exact hS', h5.trans hg'⟩ (hR _ _ hRW hk')
      refine ⟨fn, tmps, assign, body, hy, hRd.mono ?_⟩
      rintro e W2 (⟨rfl, hJ2, hR2⟩ | ⟨rfl, hx⟩)
      · exact ⟨rfl, hJ2, hR2⟩
      · obtain ⟨c, hc⟩ := hRx _ hx
        exact hc.elim
    · rintro e W2 ⟨hv, hJ2, hR2⟩
      exact ⟨hv, .inl ⟨hJ2, hR2⟩⟩
  case assign =>
    intro l x W K hK
    gi_wp2
    exact hK
  case body =>
    rintro l0 k x W hk ⟨rfl, v, h1, h2, h3, h4, h5⟩ hlt2
    rw [hz0] at hlt2
    have d0 : W.cell? ⟨w.heap.size, 0, none⟩ = some (.func (.func 60) #[] #[]) := cell_of_row W _ 0 _ _ _ h1
    have d1 : W.cell? ⟨w.heap.size + 1, 0, none⟩ = some v := cell_of_row W _ 0 _ _ _ h2
    have f1 := frozen_of_row W _ 0 _ _ h2
    have d1a : ∀ o, (W.alloc o).cell? ⟨w.heap.size + 1, 0, none⟩ = some v := fun o => cell_old o d1
    have hmx : Try.prog.follows .mixedOrders = true := by kernel_rfl
    have hd : 1 ≤ 9 - 1 - 1 := by omega
    gi_wp2
    have hown := fun o : Obj => (show W.drew.ownsRow _ _ 1 v k _ from h3).alloc o
    have hsrc : Src Try.prog 1 23 (.slice (some ⟨W.heap.size, 0, none⟩) 1 1) 1 [Value.int .u8 (IntKind.u8.wrap (97 + IntKind.u8.wrap ((numOf N (l.drop (k * numUsed N)) : Nat) : Int)))] (W.drew.alloc (.cells #[Value.int .u8 (IntKind.u8.wrap (97 + IntKind.u8.wrap ((numOf N (l.drop (k * numUsed N)) : Nat) : Int)))] 5)) :=
      Src.lit (w := W.drew) Try.underlying23 #[_] rfl (by intro u hu; simp at hu; subst hu; rfl)
    have hvB : ∀ g, v.ownBlock = some g → w.heap.size + 4 ≤ g := fun g hg => (h3.lt g hg).1
    refine wpIn_region_any hmx ?_
    change wpAnyIn _ _ _ _ _ _ _ _ _ (World.drew _)
    refine wpAnyIn_ready (rs := [0,1,2]) (by kernel_rfl) (by simp) ?_
    refine AllReadyIn.cons rfl (fun K hK => ?_) ?_
    · go_simp
      refine hK _ _ ?_
      clear hK
      refine wpAnyIn_ready (rs := [1,2]) (by kernel_rfl) (by simp) ?_
      refine AllReadyIn.cons rfl (fun K hK => ?_) ?_
      · go_simp
        refine hK _ _ ?_
        clear hK
        refine wpAnyIn_ready (rs := [2]) (by kernel_rfl) (by simp) ?_
        refine AllReadyIn.cons rfl (fun K hK => ?_) AllReadyIn.nil
        go_simp
        refine hK _ _ ?_
        clear hK
        refine wpAnyIn_ready (rs := [3]) (by kernel_rfl) (by simp) ?_
        refine AllReadyIn.cons rfl (fun K hK => ?_) AllReadyIn.nil
        go_simp
        refine ⟨trivial, ?_⟩
        refine (CallsIn.inRound l0 (callsIn_wide.2 (text_told _ _))).mono ?_
        rintro e w' ⟨rfl, rfl⟩
        dsimp only
        refine hK _ _ ?_
        clear hK
        refine wpAnyIn_ready (rs := [4]) (by kernel_rfl) (by simp) ?_
        refine AllReadyIn.cons rfl (fun K hK => ?_) AllReadyIn.nil
        go_simp
        refine hK _ _ ?_
        clear hK
        refine wpAnyIn_ready (rs := [5]) (by kernel_rfl) (by simp) ?_
        refine AllReadyIn.cons (by simp only [List.getElem?_toArray, List.getElem?_cons_succ, List.getElem?_cons_zero]; rfl) (fun K hK => ?_) AllReadyIn.nil
        refine ite_yes rfl ?_
        refine ⟨fun _ _ => trivial, ?_⟩
        refine upon_app rfl (.tmp 9) (.tmp 13) _ _ rfl E8 (m := 1) rfl rfl (hown _) hsrc (by have := HKK.out; unfold maxLen; omega) (by have := HKK.out; omega) (by simp; omega) ?_
        intro v2 w2 hown2 hg2 hat2
        refine hK _ _ ?_
        clear hK
        obtain ⟨A2, k2, rfl⟩ := ownsRow_form hown2
        have r2 := row_far (row_old _ (show W.drew.heap[w.heap.size + 1]? = _ from h2)) hg2 (fun e => by have := hvB _ e.symm; omega)
        have c5 : w2.cell? ⟨w.heap.size + 1, 0, none⟩ = some v := cell_of_row w2 _ 0 _ _ _ r2
        have f5 := frozen_of_row w2 _ 0 _ _ r2
        refine wpAnyIn_ready (rs := [6]) (by kernel_rfl) (by simp) ?_
        refine AllReadyIn.cons rfl (fun K hK => ?_) AllReadyIn.nil
        go_simp
        refine hK _ _ ?_
        clear hK
        refine wpAnyIn_done (by kernel_rfl) ?_ _
        have hfin := LJ.next (fun g hg => (hp g hg).1) hlt2 h1 h2 h3 h4 h5 rfl hown2 hg2
        rw [← hz0] at hfin
        exact hfin
      refine AllReadyIn.cons rfl (fun K hK => ?_) AllReadyIn.nil
      go_simp
      refine hK _ _ ?_
      clear hK
      refine wpAnyIn_ready (rs := [1]) (by kernel_rfl) (by simp) ?_
      refine AllReadyIn.cons rfl (fun K hK => ?_) AllReadyIn.nil
      go_simp
      refine hK _ _ ?_
      clear hK
      refine wpAnyIn_ready (rs := [3]) (by kernel_rfl) (by simp) ?_
      refine AllReadyIn.cons rfl (fun K hK => ?_) AllReadyIn.nil
      go_simp
      refine ⟨trivial, ?_⟩
      refine (CallsIn.inRound l0 (callsIn_wide.2 (text_told _ _))).mono ?_
      rintro e w' ⟨rfl, rfl⟩
      dsimp only
      refine hK _ _ ?_
      clear hK
      refine wpAnyIn_ready (rs := [4]) (by kernel_rfl) (by simp) ?_
      refine AllReadyIn.cons rfl (fun K hK => ?_) AllReadyIn.nil
      go_simp
      refine hK _ _ ?_
      clear hK
      refine wpAnyIn_ready (rs := [5]) (by kernel_rfl) (by simp) ?_
      refine AllReadyIn.cons (by simp only [List.getElem?_toArray, List.getElem?_cons_succ, List.getElem?_cons_zero]; rfl) (fun K hK => ?_) AllReadyIn.nil
      refine ite_yes rfl ?_
      refine ⟨fun _ _ => trivial, ?_⟩
      refine upon_app rfl (.tmp 9) (.tmp 13) _ _ rfl E8 (m := 1) rfl rfl (hown _) hsrc (by have := HKK.out; unfold maxLen; omega) (by have := HKK.out; omega) (by simp; omega) ?_
      intro v2 w2 hown2 hg2 hat2
      refine hK _ _ ?_
      clear hK
      obtain ⟨A2, k2, rfl⟩ := ownsRow_form hown2
      have r2 := row_far (row_old _ (show W.drew.heap[w.heap.size + 1]? = _ from h2)) hg2 (fun e => by have := hvB _ e.symm; omega)
      have c5 : w2.cell? ⟨w.heap.size + 1, 0, none⟩ = some v := cell_of_row w2 _ 0 _ _ _ r2
      have f5 := frozen_of_row w2 _ 0 _ _ r2
      refine wpAnyIn_ready (rs := [6]) (by kernel_rfl) (by simp) ?_
      refine AllReadyIn.cons rfl (fun K hK => ?_) AllReadyIn.nil
      go_simp
      refine hK _ _ ?_
      clear hK
      refine wpAnyIn_done (by kernel_rfl) ?_ _
      have hfin := LJ.next (fun g hg => (hp g hg).1) hlt2 h1 h2 h3 h4 h5 rfl hown2 hg2
      rw [← hz0] at hfin
      exact hfin
    refine AllReadyIn.cons rfl (fun K hK => ?_) ?_
    · go_simp
      refine hK _ _ ?_
      clear hK
      refine wpAnyIn_ready (rs := [0,2]) (by kernel_rfl) (by simp) ?_
      refine AllReadyIn.cons rfl (fun K hK => ?_) ?_
      · go_simp
        refine hK _ _ ?_
        clear hK
        refine wpAnyIn_ready (rs := [2]) (by kernel_rfl) (by simp) ?_
        refine AllReadyIn.cons rfl (fun K hK => ?_) AllReadyIn.nil
        go_simp
        refine hK _ _ ?_
        clear hK
        refine wpAnyIn_ready (rs := [3]) (by kernel_rfl) (by simp) ?_
        refine AllReadyIn.cons rfl (fun K hK => ?_) AllReadyIn.nil
        go_simp
        refine ⟨trivial, ?_⟩
        refine (CallsIn.inRound l0 (callsIn_wide.2 (text_told _ _))).mono ?_
        rintro e w' ⟨rfl, rfl⟩
        dsimp only
        refine hK _ _ ?_
        clear hK
        refine wpAnyIn_ready (rs := [4]) (by kernel_rfl) (by simp) ?_
        refine AllReadyIn.cons rfl (fun K hK => ?_) AllReadyIn.nil
        go_simp
        refine hK _ _ ?_
        clear hK
        refine wpAnyIn_ready (rs := [5]) (by kernel_rfl) (by simp) ?_
        refine AllReadyIn.cons (by simp only [List.getElem?_toArray, List.getElem?_cons_succ, List.getElem?_cons_zero]; rfl) (fun K hK => ?_) AllReadyIn.nil
        refine ite_yes rfl ?_
        refine ⟨fun _ _ => trivial, ?_⟩
        refine upon_app rfl (.tmp 9) (.tmp 13) _ _ rfl E8 (m := 1) rfl rfl (hown _) hsrc (by have := HKK.out; unfold maxLen; omega) (by have := HKK.out; omega) (by simp; omega) ?_
        intro v2 w2 hown2 hg2 hat2
        refine hK _ _ ?_
        clear hK
        obtain ⟨A2, k2, rfl⟩ := ownsRow_form hown2
        have r2 := row_far (row_old _ (show W.drew.heap[w.heap.size + 1]? = _ from h2)) hg2 (fun e => by have := hvB _ e.symm; omega)
        have c5 : w2.cell? ⟨w.heap.size + 1, 0, none⟩ = some v := cell_of_row w2 _ 0 _ _ _ r2
        have f5 := frozen_of_row w2 _ 0 _ _ r2
        refine wpAnyIn_ready (rs := [6]) (by kernel_rfl) (by simp) ?_
        refine AllReadyIn.cons rfl (fun K hK => ?_) AllReadyIn.nil
        go_simp
        refine hK _ _ ?_
        clear hK
        refine wpAnyIn_done (by kernel_rfl) ?_ _
        have hfin := LJ.next (fun g hg => (hp g hg).1) hlt2 h1 h2 h3 h4 h5 rfl hown2 hg2
        rw [← hz0] at hfin
        exact hfin
      refine AllReadyIn.cons rfl (fun K hK => ?_) AllReadyIn.nil
      go_simp
      refine hK _ _ ?_
      clear hK
      refine wpAnyIn_ready (rs := [0,3]) (by kernel_rfl) (by simp) ?_
      refine AllReadyIn.cons rfl (fun K hK => ?_) ?_
      · go_simp
        refine hK _ _ ?_
        clear hK
        refine wpAnyIn_ready (rs := [3]) (by kernel_rfl) (by simp) ?_
        refine AllReadyIn.cons rfl (fun K hK => ?_) AllReadyIn.nil
        go_simp
        refine ⟨trivial, ?_⟩
        refine (CallsIn.inRound l0 (callsIn_wide.2 (text_told _ _))).mono ?_
        rintro e w' ⟨rfl, rfl⟩
        dsimp only
        refine hK _ _ ?_
        clear hK
        refine wpAnyIn_ready (rs := [4]) (by kernel_rfl) (by simp) ?_
        refine AllReadyIn.cons rfl (fun K hK => ?_) AllReadyIn.nil
        go_simp
        refine hK _ _ ?_
        clear hK
        refine wpAnyIn_ready (rs := [5]) (by kernel_rfl) (by simp) ?_
        refine AllReadyIn.cons (by simp only [List.getElem?_toArray, List.getElem?_cons_succ, List.getElem?_cons_zero]; rfl) (fun K hK => ?_) AllReadyIn.nil
        refine ite_yes rfl ?_
        refine ⟨fun _ _ => trivial, ?_⟩
        refine upon_app rfl (.tmp 9) (.tmp 13) _ _ rfl E8 (m := 1) rfl rfl (hown _) hsrc (by have := HKK.out; unfold maxLen; omega) (by have := HKK.out; omega) (by simp; omega) ?_
        intro v2 w2 hown2 hg2 hat2
        refine hK _ _ ?_
        clear hK
        obtain ⟨A2, k2, rfl⟩ := ownsRow_form hown2
        have r2 := row_far (row_old _ (show W.drew.heap[w.heap.size + 1]? = _ from h2)) hg2 (fun e => by have := hvB _ e.symm; omega)
        have c5 : w2.cell? ⟨w.heap.size + 1, 0, none⟩ = some v := cell_of_row w2 _ 0 _ _ _ r2
        have f5 := frozen_of_row w2 _ 0 _ _ r2
        refine wpAnyIn_ready (rs := [6]) (by kernel_rfl) (by simp) ?_
        refine AllReadyIn.cons rfl (fun K hK => ?_) AllReadyIn.nil
        go_simp
        refine hK _ _ ?_
        clear hK
        refine wpAnyIn_done (by kernel_rfl) ?_ _
        have hfin := LJ.next (fun g hg => (hp g hg).1) hlt2 h1 h2 h3 h4 h5 rfl hown2 hg2
        rw [← hz0] at hfin
        exact hfin
      refine AllReadyIn.cons rfl (fun K hK => ?_) AllReadyIn.nil
      go_simp
      refine ⟨trivial, ?_⟩
      refine (CallsIn.inRound l0 (callsIn_wide.2 (text_told _ _))).mono ?_
      rintro e w' ⟨rfl, rfl⟩
      dsimp only
      refine hK _ _ ?_
      clear hK
      refine wpAnyIn_ready (rs := [0,4]) (by kernel_rfl) (by simp) ?_
      refine AllReadyIn.cons rfl (fun K hK => ?_) ?_
      · go_simp
        refine hK _ _ ?_
        clear hK
        refine wpAnyIn_ready (rs := [4]) (by kernel_rfl) (by simp) ?_
        refine AllReadyIn.cons rfl (fun K hK => ?_) AllReadyIn.nil
        go_simp
        refine hK _ _ ?_
        clear hK
        refine wpAnyIn_ready (rs := [5]) (by kernel_rfl) (by simp) ?_
        refine AllReadyIn.cons (by simp only [List.getElem?_toArray, List.getElem?_cons_succ, List.getElem?_cons_zero]; rfl) (fun K hK => ?_) AllReadyIn.nil
        refine ite_yes rfl ?_
        refine ⟨fun _ _ => trivial, ?_⟩
        refine upon_app rfl (.tmp 9) (.tmp 13) _ _ rfl E8 (m := 1) rfl rfl (hown _) hsrc (by have := HKK.out; unfold maxLen; omega) (by have := HKK.out; omega) (by simp; omega) ?_
        intro v2 w2 hown2 hg2 hat2
        refine hK _ _ ?_
        clear hK
        obtain ⟨A2, k2, rfl⟩ := ownsRow_form hown2
        have r2 := row_far (row_old _ (show W.drew.heap[w.heap.size + 1]? = _ from h2)) hg2 (fun e => by have := hvB _ e.symm; omega)
        have c5 : w2.cell? ⟨w.heap.size + 1, 0, none⟩ = some v := cell_of_row w2 _ 0 _ _ _ r2
        have f5 := frozen_of_row w2 _ 0 _ _ r2
        refine wpAnyIn_ready (rs := [6]) (by kernel_rfl) (by simp) ?_
        refine AllReadyIn.cons rfl (fun K hK => ?_) AllReadyIn.nil
        go_simp
        refine hK _ _ ?_
        clear hK
        refine wpAnyIn_done (by kernel_rfl) ?_ _
        have hfin := LJ.next (fun g hg => (hp g hg).1) hlt2 h1 h2 h3 h4 h5 rfl hown2 hg2
        rw [← hz0] at hfin
        exact hfin
      refine AllReadyIn.cons rfl (fun K hK => ?_) AllReadyIn.nil
      go_simp
      refine hK _ _ ?_
      clear hK
      refine wpAnyIn_ready (rs := [0]) (by kernel_rfl) (by simp) ?_
      refine AllReadyIn.cons rfl (fun K hK => ?_) AllReadyIn.nil
      go_simp
      refine hK _ _ ?_
      clear hK
      refine wpAnyIn_ready (rs := [5]) (by kernel_rfl) (by simp) ?_
      refine AllReadyIn.cons (by simp only [List.getElem?_toArray, List.getElem?_cons_succ, List.getElem?_cons_zero]; rfl) (fun K hK => ?_) AllReadyIn.nil
      refine ite_yes rfl ?_
      refine ⟨fun _ _ => trivial, ?_⟩
      refine upon_app rfl (.tmp 9) (.tmp 13) _ _ rfl E8 (m := 1) rfl rfl (hown _) hsrc (by have := HKK.out; unfold maxLen; omega) (by have := HKK.out; omega) (by simp; omega) ?_
      intro v2 w2 hown2 hg2 hat2
      refine hK _ _ ?_
      clear hK
      obtain ⟨A2, k2, rfl⟩ := ownsRow_form hown2
      have r2 := row_far (row_old _ (show W.drew.heap[w.heap.size + 1]? = _ from h2)) hg2 (fun e => by have := hvB _ e.symm; omega)
      have c5 : w2.cell? ⟨w.heap.size + 1, 0, none⟩ = some v := cell_of_row w2 _ 0 _ _ _ r2
      have f5 := frozen_of_row w2 _ 0 _ _ r2
      refine wpAnyIn_ready (rs := [6]) (by kernel_rfl) (by simp) ?_
      refine AllReadyIn.cons rfl (fun K hK => ?_) AllReadyIn.nil
      go_simp
      refine hK _ _ ?_
      clear hK
      refine wpAnyIn_done (by kernel_rfl) ?_ _
      have hfin := LJ.next (fun g hg => (hp g hg).1) hlt2 h1 h2 h3 h4 h5 rfl hown2 hg2
      rw [← hz0] at hfin
      exact hfin
    refine AllReadyIn.cons rfl (fun K hK => ?_) AllReadyIn.nil
    go_simp
    refine hK _ _ ?_
    clear hK
    refine wpAnyIn_ready (rs := [0,1]) (by kernel_rfl) (by simp) ?_
    refine AllReadyIn.cons rfl (fun K hK => ?_) ?_
    · go_simp
      refine hK _ _ ?_
      clear hK
      refine wpAnyIn_ready (rs := [1]) (by kernel_rfl) (by simp) ?_
      refine AllReadyIn.cons rfl (fun K hK => ?_) AllReadyIn.nil
      go_simp
      refine hK _ _ ?_
      clear hK
      refine wpAnyIn_ready (rs := [3]) (by kernel_rfl) (by simp) ?_
      refine AllReadyIn.cons rfl (fun K hK => ?_) AllReadyIn.nil
      go_simp
      refine ⟨trivial, ?_⟩
      refine (CallsIn.inRound l0 (callsIn_wide.2 (text_told _ _))).mono ?_
      rintro e w' ⟨rfl, rfl⟩
      dsimp only
      refine hK _ _ ?_
      clear hK
      refine wpAnyIn_ready (rs := [4]) (by kernel_rfl) (by simp) ?_
      refine AllReadyIn.cons rfl (fun K hK => ?_) AllReadyIn.nil
      go_simp
      refine hK _ _ ?_
      clear hK
      refine wpAnyIn_ready (rs := [5]) (by kernel_rfl) (by simp) ?_
      refine AllReadyIn.cons (by simp only [List.getElem?_toArray, List.getElem?_cons_succ, List.getElem?_cons_zero]; rfl) (fun K hK => ?_) AllReadyIn.nil
      refine ite_yes rfl ?_
      refine ⟨fun _ _ => trivial, ?_⟩
      refine upon_app rfl (.tmp 9) (.tmp 13) _ _ rfl E8 (m := 1) rfl rfl (hown _) hsrc (by have := HKK.out; unfold maxLen; omega) (by have := HKK.out; omega) (by simp; omega) ?_
      intro v2 w2 hown2 hg2 hat2
      refine hK _ _ ?_
      clear hK
      obtain ⟨A2, k2, rfl⟩ := ownsRow_form hown2
      have r2 := row_far (row_old _ (show W.drew.heap[w.heap.size + 1]? = _ from h2)) hg2 (fun e => by have := hvB _ e.symm; omega)
      have c5 : w2.cell? ⟨w.heap.size + 1, 0, none⟩ = some v := cell_of_row w2 _ 0 _ _ _ r2
      have f5 := frozen_of_row w2 _ 0 _ _ r2
      refine wpAnyIn_ready (rs := [6]) (by kernel_rfl) (by simp) ?_
      refine AllReadyIn.cons rfl (fun K hK => ?_) AllReadyIn.nil
      go_simp
      refine hK _ _ ?_
      clear hK
      refine wpAnyIn_done (by kernel_rfl) ?_ _
      have hfin := LJ.next (fun g hg => (hp g hg).1) hlt2 h1 h2 h3 h4 h5 rfl hown2 hg2
      rw [← hz0] at hfin
      exact hfin
    refine AllReadyIn.cons rfl (fun K hK => ?_) AllReadyIn.nil
    go_simp
    refine hK _ _ ?_
    clear hK
    refine wpAnyIn_ready (rs := [0,3]) (by kernel_rfl) (by simp) ?_
    refine AllReadyIn.cons rfl (fun K hK => ?_) ?_
    · go_simp
      refine hK _ _ ?_
      clear hK
      refine wpAnyIn_ready (rs := [3]) (by kernel_rfl) (by simp) ?_
      refine AllReadyIn.cons rfl (fun K hK => ?_) AllReadyIn.nil
      go_simp
      refine ⟨trivial, ?_⟩
      refine (CallsIn.inRound l0 (callsIn_wide.2 (text_told _ _))).mono ?_
      rintro e w' ⟨rfl, rfl⟩
      dsimp only
      refine hK _ _ ?_
      clear hK
      refine wpAnyIn_ready (rs := [4]) (by kernel_rfl) (by simp) ?_
      refine AllReadyIn.cons rfl (fun K hK => ?_) AllReadyIn.nil
      go_simp
      refine hK _ _ ?_
      clear hK
      refine wpAnyIn_ready (rs := [5]) (by kernel_rfl) (by simp) ?_
      refine AllReadyIn.cons (by simp only [List.getElem?_toArray, List.getElem?_cons_succ, List.getElem?_cons_zero]; rfl) (fun K hK => ?_) AllReadyIn.nil
      refine ite_yes rfl ?_
      refine ⟨fun _ _ => trivial, ?_⟩
      refine upon_app rfl (.tmp 9) (.tmp 13) _ _ rfl E8 (m := 1) rfl rfl (hown _) hsrc (by have := HKK.out; unfold maxLen; omega) (by have := HKK.out; omega) (by simp; omega) ?_
      intro v2 w2 hown2 hg2 hat2
      refine hK _ _ ?_
      clear hK
      obtain ⟨A2, k2, rfl⟩ := ownsRow_form hown2
      have r2 := row_far (row_old _ (show W.drew.heap[w.heap.size + 1]? = _ from h2)) hg2 (fun e => by have := hvB _ e.symm; omega)
      have c5 : w2.cell? ⟨w.heap.size + 1, 0, none⟩ = some v := cell_of_row w2 _ 0 _ _ _ r2
      have f5 := frozen_of_row w2 _ 0 _ _ r2
      refine wpAnyIn_ready (rs := [6]) (by kernel_rfl) (by simp) ?_
      refine AllReadyIn.cons rfl (fun K hK => ?_) AllReadyIn.nil
      go_simp
      refine hK _ _ ?_
      clear hK
      refine wpAnyIn_done (by kernel_rfl) ?_ _
      have hfin := LJ.next (fun g hg => (hp g hg).1) hlt2 h1 h2 h3 h4 h5 rfl hown2 hg2
      rw [← hz0] at hfin
      exact hfin
    refine AllReadyIn.cons rfl (fun K hK => ?_) AllReadyIn.nil
    go_simp
    refine ⟨trivial, ?_⟩
    refine (CallsIn.inRound l0 (callsIn_wide.2 (text_told _ _))).mono ?_
    rintro e w' ⟨rfl, rfl⟩
    dsimp only
    refine hK _ _ ?_
    clear hK
    refine wpAnyIn_ready (rs := [0,4]) (by kernel_rfl) (by simp) ?_
    refine AllReadyIn.cons rfl (fun K hK => ?_) ?_
    · go_simp
      refine hK _ _ ?_
      clear hK
      refine wpAnyIn_ready (rs := [4]) (by kernel_rfl) (by simp) ?_
      refine AllReadyIn.cons rfl (fun K hK => ?_) AllReadyIn.nil
      go_simp
      refine hK _ _ ?_
      clear hK
      refine wpAnyIn_ready (rs := [5]) (by kernel_rfl) (by simp) ?_
      refine AllReadyIn.cons (by simp only [List.getElem?_toArray, List.getElem?_cons_succ, List.getElem?_cons_zero]; rfl) (fun K hK => ?_) AllReadyIn.nil
      refine ite_yes rfl ?_
      refine ⟨fun _ _ => trivial, ?_⟩
      refine upon_app rfl (.tmp 9) (.tmp 13) _ _ rfl E8 (m := 1) rfl rfl (hown _) hsrc (by have := HKK.out; unfold maxLen; omega) (by have := HKK.out; omega) (by simp; omega) ?_
      intro v2 w2 hown2 hg2 hat2
      refine hK _ _ ?_
      clear hK
      obtain ⟨A2, k2, rfl⟩ := ownsRow_form hown2
      have r2 := row_far (row_old _ (show W.drew.heap[w.heap.size + 1]? = _ from h2)) hg2 (fun e => by have := hvB _ e.symm; omega)
      have c5 : w2.cell? ⟨w.heap.size + 1, 0, none⟩ = some v := cell_of_row w2 _ 0 _ _ _ r2
      have f5 := frozen_of_row w2 _ 0 _ _ r2
      refine wpAnyIn_ready (rs := [6]) (by kernel_rfl) (by simp) ?_
      refine AllReadyIn.cons rfl (fun K hK => ?_) AllReadyIn.nil
      go_simp
      refine hK _ _ ?_
      clear hK
      refine wpAnyIn_done (by kernel_rfl) ?_ _
      have hfin := LJ.next (fun g hg => (hp g hg).1) hlt2 h1 h2 h3 h4 h5 rfl hown2 hg2
      rw [← hz0] at hfin
      exact hfin
    refine AllReadyIn.cons rfl (fun K hK => ?_) AllReadyIn.nil
    go_simp
    refine hK _ _ ?_
    clear hK
    refine wpAnyIn_ready (rs := [0]) (by kernel_rfl) (by simp) ?_
    refine AllReadyIn.cons rfl (fun K hK => ?_) AllReadyIn.nil
    go_simp
    refine hK _ _ ?_
    clear hK
    refine wpAnyIn_ready (rs := [5]) (by kernel_rfl) (by simp) ?_
    refine AllReadyIn.cons (by simp only [List.getElem?_toArray, List.getElem?_cons_succ, List.getElem?_cons_zero]; rfl) (fun K hK => ?_) AllReadyIn.nil
    refine ite_yes rfl ?_
    refine ⟨fun _ _ => trivial, ?_⟩
    refine upon_app rfl (.tmp 9) (.tmp 13) _ _ rfl E8 (m := 1) rfl rfl (hown _) hsrc (by have := HKK.out; unfold maxLen; omega) (by have := HKK.out; omega) (by simp; omega) ?_
    intro v2 w2 hown2 hg2 hat2
    refine hK _ _ ?_
    clear hK
    obtain ⟨A2, k2, rfl⟩ := ownsRow_form hown2
    have r2 := row_far (row_old _ (show W.drew.heap[w.heap.size + 1]? = _ from h2)) hg2 (fun e => by have := hvB _ e.symm; omega)
    have c5 : w2.cell? ⟨w.heap.size + 1, 0, none⟩ = some v := cell_of_row w2 _ 0 _ _ _ r2
    have f5 := frozen_of_row w2 _ 0 _ _ r2
    refine wpAnyIn_ready (rs := [6]) (by kernel_rfl) (by simp) ?_
    refine AllReadyIn.cons rfl (fun K hK => ?_) AllReadyIn.nil
    go_simp
    refine hK _ _ ?_
    clear hK
    refine wpAnyIn_done (by kernel_rfl) ?_ _
    have hfin := LJ.next (fun g hg => (hp g hg).1) hlt2 h1 h2 h3 h4 h5 rfl hown2 hg2
    rw [← hz0] at hfin
    exact hfin
  case done =>
    rintro W ⟨v, h1, h2, h3, h4, h5⟩ hD
    obtain ⟨A, c, rfl⟩ := ownsRow_form h3
    rw [hz0] at hD ⊢
    have d1 : W.cell? ⟨w.heap.size + 1, 0, none⟩ = some (.slice A K c) := cell_of_row W _ 0 _ _ _ h2
    gi_wp2
    refine ⟨by simp, .inl ⟨_, _, rfl, run_takeDeferred hD, ?_⟩⟩
    have hg := grownBy_putObj' W (w.heap.size + 2) (.deferred none)
    refine ⟨_, results_tmp rfl _ _ _, _, rfl, ownsRow_low (base := w.heap.size + 4) (base' := w.heap.size) (h3.kept hg ?_) (Nat.le_add_right _ _), h4.far hg ?_, grownBy_trans h5 hg (.inr fun g e => by have := Option.some.inj e; omega)⟩
    · cases hk : Value.ownBlock (.slice A K c) with
      | none => exact .inl rfl
      | some q => exact .inr (fun e => by have := (h3.lt q hk).1; have := Option.some.inj e; omega)
    · intro r hr B hB
      have := Option.some.inj hr
      have := (hp B hB).1
      omega

end Go.Proofs.Ytfiejdikgbeodaa

/- The reference's Hear. -/
import Derived.Test.YtkcpldkdnnhmmaaRa
import Derived.Test.YtkcpldkdnnhmmaaRs
import Derived.StillTailTactics
namespace Go.Proofs.Ytkcpldkdnnhmmaa
open Go.RowKit
set_option maxRecDepth 20000

theorem RFreed.pre {w w1 w' : World} {B g hg : Nat} {v : Value} {t : Dk} {p : Wt → Bool} {e : Ending} (k : Keeps (RFoot g hg v) w w1) (m : RFreed w1 B g hg v t p e w') : RFreed w B g hg v t p e w' := by
  obtain ⟨A, c, h1, h2, h3⟩ := m
  exact ⟨A, c, h1, own_base h2 k.size, h3.pre k⟩
set_option maxHeartbeats 8000000 in
theorem rhear_any {w : World} {B g hg : Nat} {v : Value} {t : Dk} (h : Rg w B g hg v t) (hB : B ≤ w.heap.size) (node : Int) (r : Nat) :
    Calls Try.prog 25 #[.pointer (some ⟨g, 0, none⟩), .int .i64 node, .int .u64 (r : Int)] w (RFreed w B g hg v (t.hearN node r) (Wt.upto (t.hearN node r).sure)) := by
  obtain ⟨A, cc, rfl⟩ := h.form
  have HH0 := Lib.hid h
  have HB := Lib.hid hB
  have r0 := h.c0
  have r1 := h.c1
  have r3 := h.c3
  have r4 := h.c4
  have hn7 : (t.n : Int) ≤ 7 := by have := h.ok.n7; omega
  have H7 := Lib.hid h.ok.n7
  clear h hB
  by_cases n0 : node < 0
  · have dn : decide (0 ≤ node) = false := by simp; omega
    have dn2 : ¬ 0 ≤ node := by omega
    have ht : t.hearN node r = t := by
      unfold Dk.hearN
      rw [if_neg (by unfold Dk.hears; unfold Qu.inB; simp [dn2])]
    rw [ht]
    have HR0 := HH0
    have HK0 : Hid (Keeps (RFoot g hg (.slice A t.l.length cc)) w w) := Lib.hid (Keeps.refl _ _)
    have HBR := HB
    clear ht
    go_enter Try.func25, Try.ntmps25
    have HSU := Lib.hid (rsure_any HR0.out)
    go_wp2_with (first
      | (go_at_call 16; refine HSU.out.mono ?_; rintro e w1 ⟨rfl, hb1⟩
         have HH := Lib.hid (HR0.out.below hb1)
         have HKW := Lib.hid (HK0.out.trans (Keeps.of_below (F := RFoot g hg (.slice A t.l.length cc)) hb1) (fun i hi => .inl hi))
         have HBB := Lib.hid (Nat.le_trans HBR.out hb1.size)
         clear hb1)
      | fail)
    obtain ⟨s, hs⟩ : ∃ s, s = t.sure := ⟨_, rfl⟩
    have HSE := Lib.hid hs
    rw [← hs]
    have hroom := HH.out.ok.room
    clear hs
    obtain ⟨W, hW⟩ : ∃ W : World, W = w1 := ⟨_, rfl⟩
    rw [← hW] at HH HKW HBB ⊢
    clear hW
    go_loopw [8, 9, 10] (fun gr sr ir wr => ∃ i : Nat, i ≤ t.l.length ∧ ir = .int .i64 (i : Int) ∧ Hid (RTwo W wr gr sr ((t.l.take i).filter (Wt.upto s)) ((t.l.take i).filter fun x => !Wt.upto s x))) (fun _ _ ir _ => t.l.length - (intOf ir).toNat)
    case atStart => exact ⟨0, Nat.zero_le _, rfl, Lib.hid ⟨Below.refl _ _, World.ownsRow_nil _ _ _ _, World.ownsRow_nil _ _ _ _, fun q hq => by cases hq⟩⟩
    case round =>
      obtain ⟨i, hi, rfl, HT⟩ := hrel
      by_cases hlt : i < t.l.length
      · skip
        obtain ⟨y, hy⟩ : ∃ y, t.l[i]? = some y := ⟨_, List.getElem?_eq_getElem (by omega)⟩
        have hrd := ownsRow_rd (HH.out.below HT.out.bel).own
        obtain ⟨b, o, hA, hbb, hcc⟩ := hrd.2.2.2 (by omega)
        subst hA
        have hce := fun j u (hu : y.cells[j]? = some u) => hcc _ _ (wts_get t.l i y hy j u hu)
        have r0 := (HH.out.below HT.out.bel).c2
        have hlti : (i : Int) < (t.l.length : Int) := by omega
        have hii : (i : Int) ≤ 64 := by omega
        have hli : (t.l.length : Int) ≤ 64 := by omega
        have d5 : decide ((i : Int) < (t.l.length : Int)) = true := by simpa using hlti
        obtain ⟨A1, c1, rfl⟩ := ownsRow_form HT.out.oa
        obtain ⟨A2, c2, rfl⟩ := ownsRow_form HT.out.ob
        have hl1 : ((t.l.take i).filter (Wt.upto s)).length ≤ 64 := Nat.le_trans (List.length_filter_le _ _) (by rw [List.length_take]; omega)
        have hl2 : ((t.l.take i).filter fun x => !Wt.upto s x).length ≤ 64 := Nat.le_trans (List.length_filter_le _ _) (by rw [List.length_take]; omega)
        obtain ⟨cl, rq, ix, fr, ct, rd⟩ := y
        unfold Wt.cells at hce
        dsimp only at hce
        have k0 := hce 0 _ rfl
        have k1 := hce 1 _ rfl
        have k2 := hce 2 _ rfl
        have k3 := hce 3 _ rfl
        have k4 := hce 4 _ rfl
        have k5 := hce 5 _ rfl
        try dsimp only at k0 k1 k2 k3 k4 k5
        simp only [← Nat.add_assoc, Nat.add_zero] at k0 k1 k2 k3 k4 k5
        clear hce
        clear hrd hcc
        by_cases z0 : ix = 0
        · subst z0
          by_cases z1 : rd ≤ s
          · have z1i : (rd : Int) ≤ (s : Int) := by omega
            have z1d : decide ((rd : Int) ≤ (s : Int)) = true := by simpa using z1i
            have hp : Wt.upto s ⟨cl, rq, 0, fr, ct, rd⟩ = true := by
              unfold Wt.upto Wt.isRead; simp [z1]
            have hp2 : ¬ (!Wt.upto s ⟨cl, rq, 0, fr, ct, rd⟩) = true := by rw [hp]; decide
            have hf1 := filter_take (Wt.upto s) t.l hy
            have hf2 := filter_take (fun x => !Wt.upto s x) t.l hy
            rw [if_pos hp] at hf1
            rw [if_neg hp2, List.append_nil] at hf2
            have HF1 := Lib.hid hf1
            have HF2 := Lib.hid hf2
            clear hf1 hf2 hp hp2 hy
            go_wp2_with (first
              | (at_builtin
                 refine wpL_app rfl _ _ _ _ rfl E_rwt rfl rfl (HT.out.below ((Below.refl _ _).alloc (Nat.le_refl _) _)).oa (Src.lit' rfl (n := 1) (sz := 6) Try.underlying41 #[.int .u64 (cl : Int), .int .u64 (rq : Int), .int .u64 ((0 : Nat) : Int), .int .u32 (fr : Int), .int .u32 (ct : Int), .int .u64 (rd : Int)] rfl (by simp [Value.oneCell'])) (by unfold maxLen; omega) (by omega) (Nat.le_trans HT.out.bel.size (by simp)) ?_
                 intro v3 w3 hown3 hg3 hat3)
              | fail)
            go_roundw
            case rel =>
              refine ⟨i + 1, by omega, by go_num, Lib.hid ?_⟩
              rw [HF1.out, HF2.out]
              exact (HT.out.below ((Below.refl _ _).alloc (Nat.le_refl _) _)).appA (x := ⟨cl, rq, 0, fr, ct, rd⟩) hown3 hg3 hat3
            case measure => simp [intOf]; omega
          · have z1i : ¬ (rd : Int) ≤ (s : Int) := by omega
            have z1d : decide ((rd : Int) ≤ (s : Int)) = false := by simpa using z1i
            have hp : Wt.upto s ⟨cl, rq, 0, fr, ct, rd⟩ = false := by
              unfold Wt.upto; simp [z1]
            have hp2 : (!Wt.upto s ⟨cl, rq, 0, fr, ct, rd⟩) = true := by rw [hp]; rfl
            have hf1 := filter_take (Wt.upto s) t.l hy
            have hf2 := filter_take (fun x => !Wt.upto s x) t.l hy
            rw [if_neg (by rw [hp]; decide), List.append_nil] at hf1
            rw [if_pos hp2] at hf2
            have HF1 := Lib.hid hf1
            have HF2 := Lib.hid hf2
            clear hf1 hf2 hp hp2 hy
            go_wp2_with (first
              | (at_builtin
                 refine wpL_app rfl _ _ _ _ rfl E_rwt rfl rfl (HT.out.below ((Below.refl _ _).alloc (Nat.le_refl _) _)).ob (Src.lit' rfl (n := 1) (sz := 6) Try.underlying41 #[.int .u64 (cl : Int), .int .u64 (rq : Int), .int .u64 ((0 : Nat) : Int), .int .u32 (fr : Int), .int .u32 (ct : Int), .int .u64 (rd : Int)] rfl (by simp [Value.oneCell'])) (by unfold maxLen; omega) (by omega) (Nat.le_trans HT.out.bel.size (by simp)) ?_
                 intro v3 w3 hown3 hg3 hat3)
              | fail)
            go_roundw
            case rel =>
              refine ⟨i + 1, by omega, by go_num, Lib.hid ?_⟩
              rw [HF1.out, HF2.out]
              exact (HT.out.below ((Below.refl _ _).alloc (Nat.le_refl _) _)).appB (x := ⟨cl, rq, 0, fr, ct, rd⟩) hown3 hg3 hat3
            case measure => simp [intOf]; omega
        · have z0p : ¬ (ix : Int) = 0 := by omega
          have z0d : decide ((ix : Int) = 0) = false := by simpa using z0p
          have z0b : ((ix : Int) == 0) = false := by rw [beq_nat0]; simpa using z0
          have hp : Wt.upto s ⟨cl, rq, ix, fr, ct, rd⟩ = false := by
            unfold Wt.upto Wt.isRead; simp [z0]
          have hp2 : (!Wt.upto s ⟨cl, rq, ix, fr, ct, rd⟩) = true := by rw [hp]; rfl
          have hf1 := filter_take (Wt.upto s) t.l hy
          have hf2 := filter_take (fun x => !Wt.upto s x) t.l hy
          rw [if_neg (by rw [hp]; decide), List.append_nil] at hf1
          rw [if_pos hp2] at hf2
          have HF1 := Lib.hid hf1
          have HF2 := Lib.hid hf2
          clear hf1 hf2 hp hp2 hy
          go_wp2_with (first
            | (at_builtin
               refine wpL_app rfl _ _ _ _ rfl E_rwt rfl rfl (HT.out.below ((Below.refl _ _).alloc (Nat.le_refl _) _)).ob (Src.lit' rfl (n := 1) (sz := 6) Try.underlying41 #[.int .u64 (cl : Int), .int .u64 (rq : Int), .int .u64 (ix : Int), .int .u32 (fr : Int), .int .u32 (ct : Int), .int .u64 (rd : Int)] rfl (by simp [Value.oneCell'])) (by unfold maxLen; omega) (by omega) (Nat.le_trans HT.out.bel.size (by simp)) ?_
               intro v3 w3 hown3 hg3 hat3)
            | fail)
          go_roundw
          case rel =>
            refine ⟨i + 1, by omega, by go_num, Lib.hid ?_⟩
            rw [HF1.out, HF2.out]
            exact (HT.out.below ((Below.refl _ _).alloc (Nat.le_refl _) _)).appB (x := ⟨cl, rq, ix, fr, ct, rd⟩) hown3 hg3 hat3
          case measure => simp [intOf]; omega
      · obtain rfl : i = t.l.length := by omega
        rw [List.take_of_length_le (Nat.le_refl _)] at HT
        have d5 : decide ((t.l.length : Int) < (t.l.length : Int)) = false := by simp
        have r0 := (HH.out.below HT.out.bel).c2
        have f0 := (HH.out.below HT.out.bel).fr 2
        have hli : (t.l.length : Int) ≤ 64 := by omega
        obtain ⟨A1, c1, rfl⟩ := ownsRow_form HT.out.oa
        obtain ⟨A2, c2, rfl⟩ := ownsRow_form HT.out.ob
        go_wp2
        go_ret
        rw [← HSE.out]
        have hset := Keeps.set wr g 2 (.slice A2 (t.l.filter fun x => !Wt.upto s x).length c2)
        have hlt := HH.out.lt
        refine RFreed.pre HKW.out ⟨A1, c1, rfl, hset.own HT.out.oa (fun q hq e => by have := (HT.out.oa.lt q hq).1; omega), ?_⟩
        exact HH.out.waits (l2 := t.l.filter fun x => !Wt.upto s x) (Keeps.of_below HT.out.bel) (own_base HT.out.ob HBB.out) (.inr fun q hq => (HT.out.ob.lt q hq).1) (Nat.le_trans (List.length_filter_le _ _) hroom) (fun x hx => HH.out.ok.ix x (List.mem_filter.1 hx).1)
  · obtain ⟨k, rfl⟩ : ∃ k : Nat, node = (k : Int) := ⟨node.toNat, by omega⟩
    by_cases n1 : k < t.n
    · have n1i : (k : Int) < (t.n : Int) := by omega
      have n1d : decide ((k : Int) < (t.n : Int)) = true := by simpa using n1i
      by_cases n2 : k = t.self
      · subst n2
        have ht : t.hearN (t.self : Int) r = t := by
          unfold Dk.hearN
          rw [if_neg (by unfold Dk.hears; simp)]
        rw [ht]
        have HR0 := HH0
        have HK0 : Hid (Keeps (RFoot g hg (.slice A t.l.length cc)) w w) := Lib.hid (Keeps.refl _ _)
        have HBR := HB
        clear ht
        go_enter Try.func25, Try.ntmps25
        have HSU := Lib.hid (rsure_any HR0.out)
        go_wp2_with (first
          | (go_at_call 16; refine HSU.out.mono ?_; rintro e w1 ⟨rfl, hb1⟩
             have HH := Lib.hid (HR0.out.below hb1)
             have HKW := Lib.hid (HK0.out.trans (Keeps.of_below (F := RFoot g hg (.slice A t.l.length cc)) hb1) (fun i hi => .inl hi))
             have HBB := Lib.hid (Nat.le_trans HBR.out hb1.size)
             clear hb1)
          | fail)
        obtain ⟨s, hs⟩ : ∃ s, s = t.sure := ⟨_, rfl⟩
        have HSE := Lib.hid hs
        rw [← hs]
        have hroom := HH.out.ok.room
        clear hs
        obtain ⟨W, hW⟩ : ∃ W : World, W = w1 := ⟨_, rfl⟩
        rw [← hW] at HH HKW HBB ⊢
        clear hW
        go_loopw [8, 9, 10] (fun gr sr ir wr => ∃ i : Nat, i ≤ t.l.length ∧ ir = .int .i64 (i : Int) ∧ Hid (RTwo W wr gr sr ((t.l.take i).filter (Wt.upto s)) ((t.l.take i).filter fun x => !Wt.upto s x))) (fun _ _ ir _ => t.l.length - (intOf ir).toNat)
        case atStart => exact ⟨0, Nat.zero_le _, rfl, Lib.hid ⟨Below.refl _ _, World.ownsRow_nil _ _ _ _, World.ownsRow_nil _ _ _ _, fun q hq => by cases hq⟩⟩
        case round =>
          obtain ⟨i, hi, rfl, HT⟩ := hrel
          by_cases hlt : i < t.l.length
          · skip
            obtain ⟨y, hy⟩ : ∃ y, t.l[i]? = some y := ⟨_, List.getElem?_eq_getElem (by omega)⟩
            have hrd := ownsRow_rd (HH.out.below HT.out.bel).own
            obtain ⟨b, o, hA, hbb, hcc⟩ := hrd.2.2.2 (by omega)
            subst hA
            have hce := fun j u (hu : y.cells[j]? = some u) => hcc _ _ (wts_get t.l i y hy j u hu)
            have r0 := (HH.out.below HT.out.bel).c2
            have hlti : (i : Int) < (t.l.length : Int) := by omega
            have hii : (i : Int) ≤ 64 := by omega
            have hli : (t.l.length : Int) ≤ 64 := by omega
            have d5 : decide ((i : Int) < (t.l.length : Int)) = true := by simpa using hlti
            obtain ⟨A1, c1, rfl⟩ := ownsRow_form HT.out.oa
            obtain ⟨A2, c2, rfl⟩ := ownsRow_form HT.out.ob
            have hl1 : ((t.l.take i).filter (Wt.upto s)).length ≤ 64 := Nat.le_trans (List.length_filter_le _ _) (by rw [List.length_take]; omega)
            have hl2 : ((t.l.take i).filter fun x => !Wt.upto s x).length ≤ 64 := Nat.le_trans (List.length_filter_le _ _) (by rw [List.length_take]; omega)
            obtain ⟨cl, rq, ix, fr, ct, rd⟩ := y
            unfold Wt.cells at hce
            dsimp only at hce
            have k0 := hce 0 _ rfl
            have k1 := hce 1 _ rfl
            have k2 := hce 2 _ rfl
            have k3 := hce 3 _ rfl
            have k4 := hce 4 _ rfl
            have k5 := hce 5 _ rfl
            try dsimp only at k0 k1 k2 k3 k4 k5
            simp only [← Nat.add_assoc, Nat.add_zero] at k0 k1 k2 k3 k4 k5
            clear hce
            clear hrd hcc
            by_cases z0 : ix = 0
            · subst z0
              by_cases z1 : rd ≤ s
              · have z1i : (rd : Int) ≤ (s : Int) := by omega
                have z1d : decide ((rd : Int) ≤ (s : Int)) = true := by simpa using z1i
                have hp : Wt.upto s ⟨cl, rq, 0, fr, ct, rd⟩ = true := by
                  unfold Wt.upto Wt.isRead; simp [z1]
                have hp2 : ¬ (!Wt.upto s ⟨cl, rq, 0, fr, ct, rd⟩) = true := by rw [hp]; decide
                have hf1 := filter_take (Wt.upto s) t.l hy
                have hf2 := filter_take (fun x => !Wt.upto s x) t.l hy
                rw [if_pos hp] at hf1
                rw [if_neg hp2, List.append_nil] at hf2
                have HF1 := Lib.hid hf1
                have HF2 := Lib.hid hf2
                clear hf1 hf2 hp hp2 hy
                go_wp2_with (first
                  | (at_builtin
                     refine wpL_app rfl _ _ _ _ rfl E_rwt rfl rfl (HT.out.below ((Below.refl _ _).alloc (Nat.le_refl _) _)).oa (Src.lit' rfl (n := 1) (sz := 6) Try.underlying41 #[.int .u64 (cl : Int), .int .u64 (rq : Int), .int .u64 ((0 : Nat) : Int), .int .u32 (fr : Int), .int .u32 (ct : Int), .int .u64 (rd : Int)] rfl (by simp [Value.oneCell'])) (by unfold maxLen; omega) (by omega) (Nat.le_trans HT.out.bel.size (by simp)) ?_
                     intro v3 w3 hown3 hg3 hat3)
                  | fail)
                go_roundw
                case rel =>
                  refine ⟨i + 1, by omega, by go_num, Lib.hid ?_⟩
                  rw [HF1.out, HF2.out]
                  exact (HT.out.below ((Below.refl _ _).alloc (Nat.le_refl _) _)).appA (x := ⟨cl, rq, 0, fr, ct, rd⟩) hown3 hg3 hat3
                case measure => simp [intOf]; omega
              · have z1i : ¬ (rd : Int) ≤ (s : Int) := by omega
                have z1d : decide ((rd : Int) ≤ (s : Int)) = false := by simpa using z1i
                have hp : Wt.upto s ⟨cl, rq, 0, fr, ct, rd⟩ = false := by
                  unfold Wt.upto; simp [z1]
                have hp2 : (!Wt.upto s ⟨cl, rq, 0, fr, ct, rd⟩) = true := by rw [hp]; rfl
                have hf1 := filter_take (Wt.upto s) t.l hy
                have hf2 := filter_take (fun x => !Wt.upto s x) t.l hy
                rw [if_neg (by rw [hp]; decide), List.append_nil] at hf1
                rw [if_pos hp2] at hf2
                have HF1 := Lib.hid hf1
                have HF2 := Lib.hid hf2
                clear hf1 hf2 hp hp2 hy
                go_wp2_with (first
                  | (at_builtin
                     refine wpL_app rfl _ _ _ _ rfl E_rwt rfl rfl (HT.out.below ((Below.refl _ _).alloc (Nat.le_refl _) _)).ob (Src.lit' rfl (n := 1) (sz := 6) Try.underlying41 #[.int .u64 (cl : Int), .int .u64 (rq : Int), .int .u64 ((0 : Nat) : Int), .int .u32 (fr : Int), .int .u32 (ct : Int), .int .u64 (rd : Int)] rfl (by simp [Value.oneCell'])) (by unfold maxLen; omega) (by omega) (Nat.le_trans HT.out.bel.size (by simp)) ?_
                     intro v3 w3 hown3 hg3 hat3)
                  | fail)
                go_roundw
                case rel =>
                  refine ⟨i + 1, by omega, by go_num, Lib.hid ?_⟩
                  rw [HF1.out, HF2.out]
                  exact (HT.out.below ((Below.refl _ _).alloc (Nat.le_refl _) _)).appB (x := ⟨cl, rq, 0, fr, ct, rd⟩) hown3 hg3 hat3
                case measure => simp [intOf]; omega
            · have z0p : ¬ (ix : Int) = 0 := by omega
              have z0d : decide ((ix : Int) = 0) = false := by simpa using z0p
              have z0b : ((ix : Int) == 0) = false := by rw [beq_nat0]; simpa using z0
              have hp : Wt.upto s ⟨cl, rq, ix, fr, ct, rd⟩ = false := by
                unfold Wt.upto Wt.isRead; simp [z0]
              have hp2 : (!Wt.upto s ⟨cl, rq, ix, fr, ct, rd⟩) = true := by rw [hp]; rfl
              have hf1 := filter_take (Wt.upto s) t.l hy
              have hf2 := filter_take (fun x => !Wt.upto s x) t.l hy
              rw [if_neg (by rw [hp]; decide), List.append_nil] at hf1
              rw [if_pos hp2] at hf2
              have HF1 := Lib.hid hf1
              have HF2 := Lib.hid hf2
              clear hf1 hf2 hp hp2 hy
              go_wp2_with (first
                | (at_builtin
                   refine wpL_app rfl _ _ _ _ rfl E_rwt rfl rfl (HT.out.below ((Below.refl _ _).alloc (Nat.le_refl _) _)).ob (Src.lit' rfl (n := 1) (sz := 6) Try.underlying41 #[.int .u64 (cl : Int), .int .u64 (rq : Int), .int .u64 (ix : Int), .int .u32 (fr : Int), .int .u32 (ct : Int), .int .u64 (rd : Int)] rfl (by simp [Value.oneCell'])) (by unfold maxLen; omega) (by omega) (Nat.le_trans HT.out.bel.size (by simp)) ?_
                   intro v3 w3 hown3 hg3 hat3)
                | fail)
              go_roundw
              case rel =>
                refine ⟨i + 1, by omega, by go_num, Lib.hid ?_⟩
                rw [HF1.out, HF2.out]
                exact (HT.out.below ((Below.refl _ _).alloc (Nat.le_refl _) _)).appB (x := ⟨cl, rq, ix, fr, ct, rd⟩) hown3 hg3 hat3
              case measure => simp [intOf]; omega
          · obtain rfl : i = t.l.length := by omega
            rw [List.take_of_length_le (Nat.le_refl _)] at HT
            have d5 : decide ((t.l.length : Int) < (t.l.length : Int)) = false := by simp
            have r0 := (HH.out.below HT.out.bel).c2
            have f0 := (HH.out.below HT.out.bel).fr 2
            have hli : (t.l.length : Int) ≤ 64 := by omega
            obtain ⟨A1, c1, rfl⟩ := ownsRow_form HT.out.oa
            obtain ⟨A2, c2, rfl⟩ := ownsRow_form HT.out.ob
            go_wp2
            go_ret
            rw [← HSE.out]
            have hset := Keeps.set wr g 2 (.slice A2 (t.l.filter fun x => !Wt.upto s x).length c2)
            have hlt := HH.out.lt
            refine RFreed.pre HKW.out ⟨A1, c1, rfl, hset.own HT.out.oa (fun q hq e => by have := (HT.out.oa.lt q hq).1; omega), ?_⟩
            exact HH.out.waits (l2 := t.l.filter fun x => !Wt.upto s x) (Keeps.of_below HT.out.bel) (own_base HT.out.ob HBB.out) (.inr fun q hq => (HT.out.ob.lt q hq).1) (Nat.le_trans (List.length_filter_le _ _) hroom) (fun x hx => HH.out.ok.ix x (List.mem_filter.1 hx).1)
      · have n2i : ¬ (k : Int) = (t.self : Int) := by omega
        have n2d : decide ((k : Int) = (t.self : Int)) = false := by simpa using n2i
        have n2b : ((k : Int) == (t.self : Int)) = false := by rw [beq_nat]; simpa using n2
        by_cases n3 : r ≤ t.round
        · have n3i : (r : Int) ≤ (t.round : Int) := by omega
          have n3d : decide ((r : Int) ≤ (t.round : Int)) = true := by simpa using n3i
          have hk7 : k < 7 := by have := H7.out; omega
          have hki : (k : Int) < 64 := by omega
          have hki6 : (k : Int) ≤ 63 := by omega
          have hb : Qu.inB (nset t.n) (k : Int) = true := by
            unfold Qu.inB
            rw [Int.toNat_natCast, nset_bit]
            simp [n1]
            omega
          have hh : t.hears (k : Int) r = true := by
            unfold Dk.hears
            rw [hb, show decide ((k : Int) ≠ (t.self : Int)) = true by simp; omega, show decide (r ≤ t.round) = true by simpa using n3]
            decide
          have ht : t.hearN (k : Int) r = t.hear (t.h.set k (max (t.h.getD k 0) r)) := by
            unfold Dk.hearN
            rw [if_pos hh, Int.toNat_natCast]
          rw [ht]
          have hfw := fun (W : World) (hbW : Below w.heap.size w W) => (HH0.out.below hbW).heard (k := k) (x := max (t.h.getD k 0) r) hk7
          have ch := HH0.out.ch hk7
          have hmx : max ((t.h.getD k 0 : Nat) : Int) (r : Int) = ((max (t.h.getD k 0) r : Nat) : Int) := by omega
          have HMX := Lib.hid hmx
          have HFW := Lib.hid hfw
          have hlen : (t.hear (t.h.set k (max (t.h.getD k 0) r))).l = t.l := rfl
          obtain ⟨t2, ht2⟩ : ∃ t2, t2 = t.hear (t.h.set k (max (t.h.getD k 0) r)) := ⟨_, rfl⟩
          rw [← ht2] at HFW hlen ⊢
          rw [← hlen]
          have HLEN := Lib.hid hlen
          clear ht hfw hmx hh hb ht2 hlen
          generalize max (t.h.getD k 0) r = mx at *
          generalize t.h.getD k 0 = hk0 at *
          go_enter Try.func25, Try.ntmps25
          go_wp2_with (fail)
          go_still_tail 15, (by kernel_rfl)
          change wpList _ _ _ _ _ w.drew
          have hbd : Below w.heap.size w w.drew := (Below.refl _ _).drew
          have fd := frozen_of_row w.drew hg k _ _ (HH0.out.below hbd).hrow
          have cd := (HH0.out.below hbd).ch hk7
          have HBD := Lib.hid hbd
          generalize w.drew = wD at *
          have hse := HFW.out wD HBD.out
          rw [HMX.out]
          have HR0a := Lib.hid hse.1
          have HK0a := Lib.hid ((Keeps.of_below (F := RFoot g hg (.slice A t.l.length cc)) HBD.out).trans hse.2 (fun i hi => .inl hi))
          have HBRa := Lib.hid (Nat.le_trans HB.out (Nat.le_trans HBD.out.size hse.2.size))
          rw [← HLEN.out] at HR0a HK0a
          obtain ⟨t, rfl⟩ : ∃ t0, t0 = t2 := ⟨_, rfl⟩
          have HR0 := HR0a
          have HK0 := HK0a
          have HBR := HBRa
          clear hbd hse r0 r1 r3 r4 ch hn7 H7
          skip
          have HSU := Lib.hid (rsure_any HR0.out)
          go_wp2_with (first
            | (go_at_call 16; refine HSU.out.mono ?_; rintro e w1 ⟨rfl, hb1⟩
               have HH := Lib.hid (HR0.out.below hb1)
               have HKW := Lib.hid (HK0.out.trans (Keeps.of_below (F := RFoot g hg (.slice A t.l.length cc)) hb1) (fun i hi => .inl hi))
               have HBB := Lib.hid (Nat.le_trans HBR.out hb1.size)
               clear hb1)
            | fail)
          obtain ⟨s, hs⟩ : ∃ s, s = t.sure := ⟨_, rfl⟩
          have HSE := Lib.hid hs
          rw [← hs]
          have hroom := HH.out.ok.room
          clear hs
          obtain ⟨W, hW⟩ : ∃ W : World, W = w1 := ⟨_, rfl⟩
          rw [← hW] at HH HKW HBB ⊢
          clear hW
          go_loopw [8, 9, 10] (fun gr sr ir wr => ∃ i : Nat, i ≤ t.l.length ∧ ir = .int .i64 (i : Int) ∧ Hid (RTwo W wr gr sr ((t.l.take i).filter (Wt.upto s)) ((t.l.take i).filter fun x => !Wt.upto s x))) (fun _ _ ir _ => t.l.length - (intOf ir).toNat)
          case atStart => exact ⟨0, Nat.zero_le _, rfl, Lib.hid ⟨Below.refl _ _, World.ownsRow_nil _ _ _ _, World.ownsRow_nil _ _ _ _, fun q hq => by cases hq⟩⟩
          case round =>
            obtain ⟨i, hi, rfl, HT⟩ := hrel
            by_cases hlt : i < t.l.length
            · skip
              obtain ⟨y, hy⟩ : ∃ y, t.l[i]? = some y := ⟨_, List.getElem?_eq_getElem (by omega)⟩
              have hrd := ownsRow_rd (HH.out.below HT.out.bel).own
              obtain ⟨b, o, hA, hbb, hcc⟩ := hrd.2.2.2 (by omega)
              subst hA
              have hce := fun j u (hu : y.cells[j]? = some u) => hcc _ _ (wts_get t.l i y hy j u hu)
              have r0 := (HH.out.below HT.out.bel).c2
              have hlti : (i : Int) < (t.l.length : Int) := by omega
              have hii : (i : Int) ≤ 64 := by omega
              have hli : (t.l.length : Int) ≤ 64 := by omega
              have d5 : decide ((i : Int) < (t.l.length : Int)) = true := by simpa using hlti
              obtain ⟨A1, c1, rfl⟩ := ownsRow_form HT.out.oa
              obtain ⟨A2, c2, rfl⟩ := ownsRow_form HT.out.ob
              have hl1 : ((t.l.take i).filter (Wt.upto s)).length ≤ 64 := Nat.le_trans (List.length_filter_le _ _) (by rw [List.length_take]; omega)
              have hl2 : ((t.l.take i).filter fun x => !Wt.upto s x).length ≤ 64 := Nat.le_trans (List.length_filter_le _ _) (by rw [List.length_take]; omega)
              obtain ⟨cl, rq, ix, fr, ct, rd⟩ := y
              unfold Wt.cells at hce
              dsimp only at hce
              have k0 := hce 0 _ rfl
              have k1 := hce 1 _ rfl
              have k2 := hce 2 _ rfl
              have k3 := hce 3 _ rfl
              have k4 := hce 4 _ rfl
              have k5 := hce 5 _ rfl
              try dsimp only at k0 k1 k2 k3 k4 k5
              simp only [← Nat.add_assoc, Nat.add_zero] at k0 k1 k2 k3 k4 k5
              clear hce
              clear hrd hcc
              by_cases z0 : ix = 0
              · subst z0
                by_cases z1 : rd ≤ s
                · have z1i : (rd : Int) ≤ (s : Int) := by omega
                  have z1d : decide ((rd : Int) ≤ (s : Int)) = true := by simpa using z1i
                  have hp : Wt.upto s ⟨cl, rq, 0, fr, ct, rd⟩ = true := by
                    unfold Wt.upto Wt.isRead; simp [z1]
                  have hp2 : ¬ (!Wt.upto s ⟨cl, rq, 0, fr, ct, rd⟩) = true := by rw [hp]; decide
                  have hf1 := filter_take (Wt.upto s) t.l hy
                  have hf2 := filter_take (fun x => !Wt.upto s x) t.l hy
                  rw [if_pos hp] at hf1
                  rw [if_neg hp2, List.append_nil] at hf2
                  have HF1 := Lib.hid hf1
                  have HF2 := Lib.hid hf2
                  clear hf1 hf2 hp hp2 hy
                  go_wp2_with (first
                    | (at_builtin
                       refine wpL_app rfl _ _ _ _ rfl E_rwt rfl rfl (HT.out.below ((Below.refl _ _).alloc (Nat.le_refl _) _)).oa (Src.lit' rfl (n := 1) (sz := 6) Try.underlying41 #[.int .u64 (cl : Int), .int .u64 (rq : Int), .int .u64 ((0 : Nat) : Int), .int .u32 (fr : Int), .int .u32 (ct : Int), .int .u64 (rd : Int)] rfl (by simp [Value.oneCell'])) (by unfold maxLen; omega) (by omega) (Nat.le_trans HT.out.bel.size (by simp)) ?_
                       intro v3 w3 hown3 hg3 hat3)
                    | fail)
                  go_roundw
                  case rel =>
                    refine ⟨i + 1, by omega, by go_num, Lib.hid ?_⟩
                    rw [HF1.out, HF2.out]
                    exact (HT.out.below ((Below.refl _ _).alloc (Nat.le_refl _) _)).appA (x := ⟨cl, rq, 0, fr, ct, rd⟩) hown3 hg3 hat3
                  case measure => simp [intOf]; omega
                · have z1i : ¬ (rd : Int) ≤ (s : Int) := by omega
                  have z1d : decide ((rd : Int) ≤ (s : Int)) = false := by simpa using z1i
                  have hp : Wt.upto s ⟨cl, rq, 0, fr, ct, rd⟩ = false := by
                    unfold Wt.upto; simp [z1]
                  have hp2 : (!Wt.upto s ⟨cl, rq, 0, fr, ct, rd⟩) = true := by rw [hp]; rfl
                  have hf1 := filter_take (Wt.upto s) t.l hy
                  have hf2 := filter_take (fun x => !Wt.upto s x) t.l hy
                  rw [if_neg (by rw [hp]; decide), List.append_nil] at hf1
                  rw [if_pos hp2] at hf2
                  have HF1 := Lib.hid hf1
                  have HF2 := Lib.hid hf2
                  clear hf1 hf2 hp hp2 hy
                  go_wp2_with (first
                    | (at_builtin
                       refine wpL_app rfl _ _ _ _ rfl E_rwt rfl rfl (HT.out.below ((Below.refl _ _).alloc (Nat.le_refl _) _)).ob (Src.lit' rfl (n := 1) (sz := 6) Try.underlying41 #[.int .u64 (cl : Int), .int .u64 (rq : Int), .int .u64 ((0 : Nat) : Int), .int .u32 (fr : Int), .int .u32 (ct : Int), .int .u64 (rd : Int)] rfl (by simp [Value.oneCell'])) (by unfold maxLen; omega) (by omega) (Nat.le_trans HT.out.bel.size (by simp)) ?_
                       intro v3 w3 hown3 hg3 hat3)
                    | fail)
                  go_roundw
                  case rel =>
                    refine ⟨i + 1, by omega, by go_num, Lib.hid ?_⟩
                    rw [HF1.out, HF2.out]
                    exact (HT.out.below ((Below.refl _ _).alloc (Nat.le_refl _) _)).appB (x := ⟨cl, rq, 0, fr, ct, rd⟩) hown3 hg3 hat3
                  case measure => simp [intOf]; omega
              · have z0p : ¬ (ix : Int) = 0 := by omega
                have z0d : decide ((ix : Int) = 0) = false := by simpa using z0p
                have z0b : ((ix : Int) == 0) = false := by rw [beq_nat0]; simpa using z0
                have hp : Wt.upto s ⟨cl, rq, ix, fr, ct, rd⟩ = false := by
                  unfold Wt.upto Wt.isRead; simp [z0]
                have hp2 : (!Wt.upto s ⟨cl, rq, ix, fr, ct, rd⟩) = true := by rw [hp]; rfl
                have hf1 := filter_take (Wt.upto s) t.l hy
                have hf2 := filter_take (fun x => !Wt.upto s x) t.l hy
                rw [if_neg (by rw [hp]; decide), List.append_nil] at hf1
                rw [if_pos hp2] at hf2
                have HF1 := Lib.hid hf1
                have HF2 := Lib.hid hf2
                clear hf1 hf2 hp hp2 hy
                go_wp2_with (first
                  | (at_builtin
                     refine wpL_app rfl _ _ _ _ rfl E_rwt rfl rfl (HT.out.below ((Below.refl _ _).alloc (Nat.le_refl _) _)).ob (Src.lit' rfl (n := 1) (sz := 6) Try.underlying41 #[.int .u64 (cl : Int), .int .u64 (rq : Int), .int .u64 (ix : Int), .int .u32 (fr : Int), .int .u32 (ct : Int), .int .u64 (rd : Int)] rfl (by simp [Value.oneCell'])) (by unfold maxLen; omega) (by omega) (Nat.le_trans HT.out.bel.size (by simp)) ?_
                     intro v3 w3 hown3 hg3 hat3)
                  | fail)
                go_roundw
                case rel =>
                  refine ⟨i + 1, by omega, by go_num, Lib.hid ?_⟩
                  rw [HF1.out, HF2.out]
                  exact (HT.out.below ((Below.refl _ _).alloc (Nat.le_refl _) _)).appB (x := ⟨cl, rq, ix, fr, ct, rd⟩) hown3 hg3 hat3
                case measure => simp [intOf]; omega
            · obtain rfl : i = t.l.length := by omega
              rw [List.take_of_length_le (Nat.le_refl _)] at HT
              have d5 : decide ((t.l.length : Int) < (t.l.length : Int)) = false := by simp
              have r0 := (HH.out.below HT.out.bel).c2
              have f0 := (HH.out.below HT.out.bel).fr 2
              have hli : (t.l.length : Int) ≤ 64 := by omega
              obtain ⟨A1, c1, rfl⟩ := ownsRow_form HT.out.oa
              obtain ⟨A2, c2, rfl⟩ := ownsRow_form HT.out.ob
              go_wp2
              go_ret
              rw [← HSE.out]
              have hset := Keeps.set wr g 2 (.slice A2 (t.l.filter fun x => !Wt.upto s x).length c2)
              have hlt := HH.out.lt
              refine RFreed.pre HKW.out ⟨A1, c1, rfl, hset.own HT.out.oa (fun q hq e => by have := (HT.out.oa.lt q hq).1; omega), ?_⟩
              exact HH.out.waits (l2 := t.l.filter fun x => !Wt.upto s x) (Keeps.of_below HT.out.bel) (own_base HT.out.ob HBB.out) (.inr fun q hq => (HT.out.ob.lt q hq).1) (Nat.le_trans (List.length_filter_le _ _) hroom) (fun x hx => HH.out.ok.ix x (List.mem_filter.1 hx).1)
        · have n3i : ¬ (r : Int) ≤ (t.round : Int) := by omega
          have n3d : decide ((r : Int) ≤ (t.round : Int)) = false := by simpa using n3i
          have ht : t.hearN (k : Int) r = t := by
            unfold Dk.hearN
            rw [if_neg (by unfold Dk.hears; simp [n3])]
          rw [ht]
          have HR0 := HH0
          have HK0 : Hid (Keeps (RFoot g hg (.slice A t.l.length cc)) w w) := Lib.hid (Keeps.refl _ _)
          have HBR := HB
          clear ht
          go_enter Try.func25, Try.ntmps25
          have HSU := Lib.hid (rsure_any HR0.out)
          go_wp2_with (first
            | (go_at_call 16; refine HSU.out.mono ?_; rintro e w1 ⟨rfl, hb1⟩
               have HH := Lib.hid (HR0.out.below hb1)
               have HKW := Lib.hid (HK0.out.trans (Keeps.of_below (F := RFoot g hg (.slice A t.l.length cc)) hb1) (fun i hi => .inl hi))
               have HBB := Lib.hid (Nat.le_trans HBR.out hb1.size)
               clear hb1)
            | fail)
          obtain ⟨s, hs⟩ : ∃ s, s = t.sure := ⟨_, rfl⟩
          have HSE := Lib.hid hs
          rw [← hs]
          have hroom := HH.out.ok.room
          clear hs
          obtain ⟨W, hW⟩ : ∃ W : World, W = w1 := ⟨_, rfl⟩
          rw [← hW] at HH HKW HBB ⊢
          clear hW
          go_loopw [8, 9, 10] (fun gr sr ir wr => ∃ i : Nat, i ≤ t.l.length ∧ ir = .int .i64 (i : Int) ∧ Hid (RTwo W wr gr sr ((t.l.take i).filter (Wt.upto s)) ((t.l.take i).filter fun x => !Wt.upto s x))) (fun _ _ ir _ => t.l.length - (intOf ir).toNat)
          case atStart => exact ⟨0, Nat.zero_le _, rfl, Lib.hid ⟨Below.refl _ _, World.ownsRow_nil _ _ _ _, World.ownsRow_nil _ _ _ _, fun q hq => by cases hq⟩⟩
          case round =>
            obtain ⟨i, hi, rfl, HT⟩ := hrel
            by_cases hlt : i < t.l.length
            · skip
              obtain ⟨y, hy⟩ : ∃ y, t.l[i]? = some y := ⟨_, List.getElem?_eq_getElem (by omega)⟩
              have hrd := ownsRow_rd (HH.out.below HT.out.bel).own
              obtain ⟨b, o, hA, hbb, hcc⟩ := hrd.2.2.2 (by omega)
              subst hA
              have hce := fun j u (hu : y.cells[j]? = some u) => hcc _ _ (wts_get t.l i y hy j u hu)
              have r0 := (HH.out.below HT.out.bel).c2
              have hlti : (i : Int) < (t.l.length : Int) := by omega
              have hii : (i : Int) ≤ 64 := by omega
              have hli : (t.l.length : Int) ≤ 64 := by omega
              have d5 : decide ((i : Int) < (t.l.length : Int)) = true := by simpa using hlti
              obtain ⟨A1, c1, rfl⟩ := ownsRow_form HT.out.oa
              obtain ⟨A2, c2, rfl⟩ := ownsRow_form HT.out.ob
              have hl1 : ((t.l.take i).filter (Wt.upto s)).length ≤ 64 := Nat.le_trans (List.length_filter_le _ _) (by rw [List.length_take]; omega)
              have hl2 : ((t.l.take i).filter fun x => !Wt.upto s x).length ≤ 64 := Nat.le_trans (List.length_filter_le _ _) (by rw [List.length_take]; omega)
              obtain ⟨cl, rq, ix, fr, ct, rd⟩ := y
              unfold Wt.cells at hce
              dsimp only at hce
              have k0 := hce 0 _ rfl
              have k1 := hce 1 _ rfl
              have k2 := hce 2 _ rfl
              have k3 := hce 3 _ rfl
              have k4 := hce 4 _ rfl
              have k5 := hce 5 _ rfl
              try dsimp only at k0 k1 k2 k3 k4 k5
              simp only [← Nat.add_assoc, Nat.add_zero] at k0 k1 k2 k3 k4 k5
              clear hce
              clear hrd hcc
              by_cases z0 : ix = 0
              · subst z0
                by_cases z1 : rd ≤ s
                · have z1i : (rd : Int) ≤ (s : Int) := by omega
                  have z1d : decide ((rd : Int) ≤ (s : Int)) = true := by simpa using z1i
                  have hp : Wt.upto s ⟨cl, rq, 0, fr, ct, rd⟩ = true := by
                    unfold Wt.upto Wt.isRead; simp [z1]
                  have hp2 : ¬ (!Wt.upto s ⟨cl, rq, 0, fr, ct, rd⟩) = true := by rw [hp]; decide
                  have hf1 := filter_take (Wt.upto s) t.l hy
                  have hf2 := filter_take (fun x => !Wt.upto s x) t.l hy
                  rw [if_pos hp] at hf1
                  rw [if_neg hp2, List.append_nil] at hf2
                  have HF1 := Lib.hid hf1
                  have HF2 := Lib.hid hf2
                  clear hf1 hf2 hp hp2 hy
                  go_wp2_with (first
                    | (at_builtin
                       refine wpL_app rfl _ _ _ _ rfl E_rwt rfl rfl (HT.out.below ((Below.refl _ _).alloc (Nat.le_refl _) _)).oa (Src.lit' rfl (n := 1) (sz := 6) Try.underlying41 #[.int .u64 (cl : Int), .int .u64 (rq : Int), .int .u64 ((0 : Nat) : Int), .int .u32 (fr : Int), .int .u32 (ct : Int), .int .u64 (rd : Int)] rfl (by simp [Value.oneCell'])) (by unfold maxLen; omega) (by omega) (Nat.le_trans HT.out.bel.size (by simp)) ?_
                       intro v3 w3 hown3 hg3 hat3)
                    | fail)
                  go_roundw
                  case rel =>
                    refine ⟨i + 1, by omega, by go_num, Lib.hid ?_⟩
                    rw [HF1.out, HF2.out]
                    exact (HT.out.below ((Below.refl _ _).alloc (Nat.le_refl _) _)).appA (x := ⟨cl, rq, 0, fr, ct, rd⟩) hown3 hg3 hat3
                  case measure => simp [intOf]; omega
                · have z1i : ¬ (rd : Int) ≤ (s : Int) := by omega
                  have z1d : decide ((rd : Int) ≤ (s : Int)) = false := by simpa using z1i
                  have hp : Wt.upto s ⟨cl, rq, 0, fr, ct, rd⟩ = false := by
                    unfold Wt.upto; simp [z1]
                  have hp2 : (!Wt.upto s ⟨cl, rq, 0, fr, ct, rd⟩) = true := by rw [hp]; rfl
                  have hf1 := filter_take (Wt.upto s) t.l hy
                  have hf2 := filter_take (fun x => !Wt.upto s x) t.l hy
                  rw [if_neg (by rw [hp]; decide), List.append_nil] at hf1
                  rw [if_pos hp2] at hf2
                  have HF1 := Lib.hid hf1
                  have HF2 := Lib.hid hf2
                  clear hf1 hf2 hp hp2 hy
                  go_wp2_with (first
                    | (at_builtin
                       refine wpL_app rfl _ _ _ _ rfl E_rwt rfl rfl (HT.out.below ((Below.refl _ _).alloc (Nat.le_refl _) _)).ob (Src.lit' rfl (n := 1) (sz := 6) Try.underlying41 #[.int .u64 (cl : Int), .int .u64 (rq : Int), .int .u64 ((0 : Nat) : Int), .int .u32 (fr : Int), .int .u32 (ct : Int), .int .u64 (rd : Int)] rfl (by simp [Value.oneCell'])) (by unfold maxLen; omega) (by omega) (Nat.le_trans HT.out.bel.size (by simp)) ?_
                       intro v3 w3 hown3 hg3 hat3)
                    | fail)
                  go_roundw
                  case rel =>
                    refine ⟨i + 1, by omega, by go_num, Lib.hid ?_⟩
                    rw [HF1.out, HF2.out]
                    exact (HT.out.below ((Below.refl _ _).alloc (Nat.le_refl _) _)).appB (x := ⟨cl, rq, 0, fr, ct, rd⟩) hown3 hg3 hat3
                  case measure => simp [intOf]; omega
              · have z0p : ¬ (ix : Int) = 0 := by omega
                have z0d : decide ((ix : Int) = 0) = false := by simpa using z0p
                have z0b : ((ix : Int) == 0) = false := by rw [beq_nat0]; simpa using z0
                have hp : Wt.upto s ⟨cl, rq, ix, fr, ct, rd⟩ = false := by
                  unfold Wt.upto Wt.isRead; simp [z0]
                have hp2 : (!Wt.upto s ⟨cl, rq, ix, fr, ct, rd⟩) = true := by rw [hp]; rfl
                have hf1 := filter_take (Wt.upto s) t.l hy
                have hf2 := filter_take (fun x => !Wt.upto s x) t.l hy
                rw [if_neg (by rw [hp]; decide), List.append_nil] at hf1
                rw [if_pos hp2] at hf2
                have HF1 := Lib.hid hf1
                have HF2 := Lib.hid hf2
                clear hf1 hf2 hp hp2 hy
                go_wp2_with (first
                  | (at_builtin
                     refine wpL_app rfl _ _ _ _ rfl E_rwt rfl rfl (HT.out.below ((Below.refl _ _).alloc (Nat.le_refl _) _)).ob (Src.lit' rfl (n := 1) (sz := 6) Try.underlying41 #[.int .u64 (cl : Int), .int .u64 (rq : Int), .int .u64 (ix : Int), .int .u32 (fr : Int), .int .u32 (ct : Int), .int .u64 (rd : Int)] rfl (by simp [Value.oneCell'])) (by unfold maxLen; omega) (by omega) (Nat.le_trans HT.out.bel.size (by simp)) ?_
                     intro v3 w3 hown3 hg3 hat3)
                  | fail)
                go_roundw
                case rel =>
                  refine ⟨i + 1, by omega, by go_num, Lib.hid ?_⟩
                  rw [HF1.out, HF2.out]
                  exact (HT.out.below ((Below.refl _ _).alloc (Nat.le_refl _) _)).appB (x := ⟨cl, rq, ix, fr, ct, rd⟩) hown3 hg3 hat3
                case measure => simp [intOf]; omega
            · obtain rfl : i = t.l.length := by omega
              rw [List.take_of_length_le (Nat.le_refl _)] at HT
              have d5 : decide ((t.l.length : Int) < (t.l.length : Int)) = false := by simp
              have r0 := (HH.out.below HT.out.bel).c2
              have f0 := (HH.out.below HT.out.bel).fr 2
              have hli : (t.l.length : Int) ≤ 64 := by omega
              obtain ⟨A1, c1, rfl⟩ := ownsRow_form HT.out.oa
              obtain ⟨A2, c2, rfl⟩ := ownsRow_form HT.out.ob
              go_wp2
              go_ret
              rw [← HSE.out]
              have hset := Keeps.set wr g 2 (.slice A2 (t.l.filter fun x => !Wt.upto s x).length c2)
              have hlt := HH.out.lt
              refine RFreed.pre HKW.out ⟨A1, c1, rfl, hset.own HT.out.oa (fun q hq e => by have := (HT.out.oa.lt q hq).1; omega), ?_⟩
              exact HH.out.waits (l2 := t.l.filter fun x => !Wt.upto s x) (Keeps.of_below HT.out.bel) (own_base HT.out.ob HBB.out) (.inr fun q hq => (HT.out.ob.lt q hq).1) (Nat.le_trans (List.length_filter_le _ _) hroom) (fun x hx => HH.out.ok.ix x (List.mem_filter.1 hx).1)
    · have n1i : ¬ (k : Int) < (t.n : Int) := by omega
      have n1d : decide ((k : Int) < (t.n : Int)) = false := by simpa using n1i
      have ht : t.hearN (k : Int) r = t := by
        unfold Dk.hearN
        rw [if_neg (by unfold Dk.hears; unfold Qu.inB; rw [Int.toNat_natCast, nset_bit]; simp [n1])]
      rw [ht]
      have HR0 := HH0
      have HK0 : Hid (Keeps (RFoot g hg (.slice A t.l.length cc)) w w) := Lib.hid (Keeps.refl _ _)
      have HBR := HB
      clear ht
      go_enter Try.func25, Try.ntmps25
      have HSU := Lib.hid (rsure_any HR0.out)
      go_wp2_with (first
        | (go_at_call 16; refine HSU.out.mono ?_; rintro e w1 ⟨rfl, hb1⟩
           have HH := Lib.hid (HR0.out.below hb1)
           have HKW := Lib.hid (HK0.out.trans (Keeps.of_below (F := RFoot g hg (.slice A t.l.length cc)) hb1) (fun i hi => .inl hi))
           have HBB := Lib.hid (Nat.le_trans HBR.out hb1.size)
           clear hb1)
        | fail)
      obtain ⟨s, hs⟩ : ∃ s, s = t.sure := ⟨_, rfl⟩
      have HSE := Lib.hid hs
      rw [← hs]
      have hroom := HH.out.ok.room
      clear hs
      obtain ⟨W, hW⟩ : ∃ W : World, W = w1 := ⟨_, rfl⟩
      rw [← hW] at HH HKW HBB ⊢
      clear hW
      go_loopw [8, 9, 10] (fun gr sr ir wr => ∃ i : Nat, i ≤ t.l.length ∧ ir = .int .i64 (i : Int) ∧ Hid (RTwo W wr gr sr ((t.l.take i).filter (Wt.upto s)) ((t.l.take i).filter fun x => !Wt.upto s x))) (fun _ _ ir _ => t.l.length - (intOf ir).toNat)
      case atStart => exact ⟨0, Nat.zero_le _, rfl, Lib.hid ⟨Below.refl _ _, World.ownsRow_nil _ _ _ _, World.ownsRow_nil _ _ _ _, fun q hq => by cases hq⟩⟩
      case round =>
        obtain ⟨i, hi, rfl, HT⟩ := hrel
        by_cases hlt : i < t.l.length
        · skip
          obtain ⟨y, hy⟩ : ∃ y, t.l[i]? = some y := ⟨_, List.getElem?_eq_getElem (by omega)⟩
          have hrd := ownsRow_rd (HH.out.below HT.out.bel).own
          obtain ⟨b, o, hA, hbb, hcc⟩ := hrd.2.2.2 (by omega)
          subst hA
          have hce := fun j u (hu : y.cells[j]? = some u) => hcc _ _ (wts_get t.l i y hy j u hu)
          have r0 := (HH.out.below HT.out.bel).c2
          have hlti : (i : Int) < (t.l.length : Int) := by omega
          have hii : (i : Int) ≤ 64 := by omega
          have hli : (t.l.length : Int) ≤ 64 := by omega
          have d5 : decide ((i : Int) < (t.l.length : Int)) = true := by simpa using hlti
          obtain ⟨A1, c1, rfl⟩ := ownsRow_form HT.out.oa
          obtain ⟨A2, c2, rfl⟩ := ownsRow_form HT.out.ob
          have hl1 : ((t.l.take i).filter (Wt.upto s)).length ≤ 64 := Nat.le_trans (List.length_filter_le _ _) (by rw [List.length_take]; omega)
          have hl2 : ((t.l.take i).filter fun x => !Wt.upto s x).length ≤ 64 := Nat.le_trans (List.length_filter_le _ _) (by rw [List.length_take]; omega)
          obtain ⟨cl, rq, ix, fr, ct, rd⟩ := y
          unfold Wt.cells at hce
          dsimp only at hce
          have k0 := hce 0 _ rfl
          have k1 := hce 1 _ rfl
          have k2 := hce 2 _ rfl
          have k3 := hce 3 _ rfl
          have k4 := hce 4 _ rfl
          have k5 := hce 5 _ rfl
          try dsimp only at k0 k1 k2 k3 k4 k5
          simp only [← Nat.add_assoc, Nat.add_zero] at k0 k1 k2 k3 k4 k5
          clear hce
          clear hrd hcc
          by_cases z0 : ix = 0
          · subst z0
            by_cases z1 : rd ≤ s
            · have z1i : (rd : Int) ≤ (s : Int) := by omega
              have z1d : decide ((rd : Int) ≤ (s : Int)) = true := by simpa using z1i
              have hp : Wt.upto s ⟨cl, rq, 0, fr, ct, rd⟩ = true := by
                unfold Wt.upto Wt.isRead; simp [z1]
              have hp2 : ¬ (!Wt.upto s ⟨cl, rq, 0, fr, ct, rd⟩) = true := by rw [hp]; decide
              have hf1 := filter_take (Wt.upto s) t.l hy
              have hf2 := filter_take (fun x => !Wt.upto s x) t.l hy
              rw [if_pos hp] at hf1
              rw [if_neg hp2, List.append_nil] at hf2
              have HF1 := Lib.hid hf1
              have HF2 := Lib.hid hf2
              clear hf1 hf2 hp hp2 hy
              go_wp2_with (first
                | (at_builtin
                   refine wpL_app rfl _ _ _ _ rfl E_rwt rfl rfl (HT.out.below ((Below.refl _ _).alloc (Nat.le_refl _) _)).oa (Src.lit' rfl (n := 1) (sz := 6) Try.underlying41 #[.int .u64 (cl : Int), .int .u64 (rq : Int), .int .u64 ((0 : Nat) : Int), .int .u32 (fr : Int), .int .u32 (ct : Int), .int .u64 (rd : Int)] rfl (by simp [Value.oneCell'])) (by unfold maxLen; omega) (by omega) (Nat.le_trans HT.out.bel.size (by simp)) ?_
                   intro v3 w3 hown3 hg3 hat3)
                | fail)
              go_roundw
              case rel =>
                refine ⟨i + 1, by omega, by go_num, Lib.hid ?_⟩
                rw [HF1.out, HF2.out]
                exact (HT.out.below ((Below.refl _ _).alloc (Nat.le_refl _) _)).appA (x := ⟨cl, rq, 0, fr, ct, rd⟩) hown3 hg3 hat3
              case measure => simp [intOf]; omega
            · have z1i : ¬ (rd : Int) ≤ (s : Int) := by omega
              have z1d : decide ((rd : Int) ≤ (s : Int)) = false := by simpa using z1i
              have hp : Wt.upto s ⟨cl, rq, 0, fr, ct, rd⟩ = false := by
                unfold Wt.upto; simp [z1]
              have hp2 : (!Wt.upto s ⟨cl, rq, 0, fr, ct, rd⟩) = true := by rw [hp]; rfl
              have hf1 := filter_take (Wt.upto s) t.l hy
              have hf2 := filter_take (fun x => !Wt.upto s x) t.l hy
              rw [if_neg (by rw [hp]; decide), List.append_nil] at hf1
              rw [if_pos hp2] at hf2
              have HF1 := Lib.hid hf1
              have HF2 := Lib.hid hf2
              clear hf1 hf2 hp hp2 hy
              go_wp2_with (first
                | (at_builtin
                   refine wpL_app rfl _ _ _ _ rfl E_rwt rfl rfl (HT.out.below ((Below.refl _ _).alloc (Nat.le_refl _) _)).ob (Src.lit' rfl (n := 1) (sz := 6) Try.underlying41 #[.int .u64 (cl : Int), .int .u64 (rq : Int), .int .u64 ((0 : Nat) : Int), .int .u32 (fr : Int), .int .u32 (ct : Int), .int .u64 (rd : Int)] rfl (by simp [Value.oneCell'])) (by unfold maxLen; omega) (by omega) (Nat.le_trans HT.out.bel.size (by simp)) ?_
                   intro v3 w3 hown3 hg3 hat3)
                | fail)
              go_roundw
              case rel =>
                refine ⟨i + 1, by omega, by go_num, Lib.hid ?_⟩
                rw [HF1.out, HF2.out]
                exact (HT.out.below ((Below.refl _ _).alloc (Nat.le_refl _) _)).appB (x := ⟨cl, rq, 0, fr, ct, rd⟩) hown3 hg3 hat3
              case measure => simp [intOf]; omega
          · have z0p : ¬ (ix : Int) = 0 := by omega
            have z0d : decide ((ix : Int) = 0) = false := by simpa using z0p
            have z0b : ((ix : Int) == 0) = false := by rw [beq_nat0]; simpa using z0
            have hp : Wt.upto s ⟨cl, rq, ix, fr, ct, rd⟩ = false := by
              unfold Wt.upto Wt.isRead; simp [z0]
            have hp2 : (!Wt.upto s ⟨cl, rq, ix, fr, ct, rd⟩) = true := by rw [hp]; rfl
            have hf1 := filter_take (Wt.upto s) t.l hy
            have hf2 := filter_take (fun x => !Wt.upto s x) t.l hy
            rw [if_neg (by rw [hp]; decide), List.append_nil] at hf1
            rw [if_pos hp2] at hf2
            have HF1 := Lib.hid hf1
            have HF2 := Lib.hid hf2
            clear hf1 hf2 hp hp2 hy
            go_wp2_with (first
              | (at_builtin
                 refine wpL_app rfl _ _ _ _ rfl E_rwt rfl rfl (HT.out.below ((Below.refl _ _).alloc (Nat.le_refl _) _)).ob (Src.lit' rfl (n := 1) (sz := 6) Try.underlying41 #[.int .u64 (cl : Int), .int .u64 (rq : Int), .int .u64 (ix : Int), .int .u32 (fr : Int), .int .u32 (ct : Int), .int .u64 (rd : Int)] rfl (by simp [Value.oneCell'])) (by unfold maxLen; omega) (by omega) (Nat.le_trans HT.out.bel.size (by simp)) ?_
                 intro v3 w3 hown3 hg3 hat3)
              | fail)
            go_roundw
            case rel =>
              refine ⟨i + 1, by omega, by go_num, Lib.hid ?_⟩
              rw [HF1.out, HF2.out]
              exact (HT.out.below ((Below.refl _ _).alloc (Nat.le_refl _) _)).appB (x := ⟨cl, rq, ix, fr, ct, rd⟩) hown3 hg3 hat3
            case measure => simp [intOf]; omega
        · obtain rfl : i = t.l.length := by omega
          rw [List.take_of_length_le (Nat.le_refl _)] at HT
          have d5 : decide ((t.l.length : Int) < (t.l.length : Int)) = false := by simp
          have r0 := (HH.out.below HT.out.bel).c2
          have f0 := (HH.out.below HT.out.bel).fr 2
          have hli : (t.l.length : Int) ≤ 64 := by omega
          obtain ⟨A1, c1, rfl⟩ := ownsRow_form HT.out.oa
          obtain ⟨A2, c2, rfl⟩ := ownsRow_form HT.out.ob
          go_wp2
          go_ret
          rw [← HSE.out]
          have hset := Keeps.set wr g 2 (.slice A2 (t.l.filter fun x => !Wt.upto s x).length c2)
          have hlt := HH.out.lt
          refine RFreed.pre HKW.out ⟨A1, c1, rfl, hset.own HT.out.oa (fun q hq e => by have := (HT.out.oa.lt q hq).1; omega), ?_⟩
          exact HH.out.waits (l2 := t.l.filter fun x => !Wt.upto s x) (Keeps.of_below HT.out.bel) (own_base HT.out.ob HBB.out) (.inr fun q hq => (HT.out.ob.lt q hq).1) (Nat.le_trans (List.length_filter_le _ _) hroom) (fun x hx => HH.out.ok.ix x (List.mem_filter.1 hx).1)
end Go.Proofs.Ytkcpldkdnnhmmaa

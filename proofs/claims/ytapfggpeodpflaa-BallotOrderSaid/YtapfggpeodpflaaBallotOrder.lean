/- BallotOrder: in which order votes come is of no matter, where each node votes once. -/
import Derived.Test.YtapfggpeodpflaaBordmM
import Derived.Test.YtapfggpeodpflaaBdecM
namespace Go.Proofs.Ytapfggpeodpflaa
open Go.RowKit
set_option maxRecDepth 20000

theorem drewN_below (w : World) (n : Nat) : Below w.heap.size w (w.drewN n) := ⟨rfl, rfl, rfl, Nat.le_refl _, fun _ _ => rfl⟩
theorem two_below (w : World) (o o' : Obj) : Below w.heap.size w ((w.alloc o).alloc o').drew := (((Below.refl _ _).alloc (Nat.le_refl _) o).alloc (by simp) o').drew
set_option maxHeartbeats 8000000 in
theorem ballotOrder_walk {w : World} (N : Int) (_ : (Lit.int .i64 N).wf = true) (sf : Int) (_ : (Lit.int .i64 sf).wf = true) (base : Nat) (hb : base < 18446744073709551616) {A0 : Option Addr} {n0 c0 : Nat} {own : List En} (h0 : Ents w A0 n0 c0 own) {A : Option Addr} {n c : Nat} {l : List Vo} (h : Slc Vo.lay w A n c l) :
    Calls Try.prog 4 #[.int .i64 N, .int .i64 sf, .int .u64 (base : Int), .slice A0 n0 c0, .slice A n c] w fun e w' => e = .returned (.bool true) ∧ Below w.heap.size w w' := by
  have HV := Lib.hid lives26
  have HLT0 := Lib.hid (light26 base hb h0 h)
  unfold TVal at HV
  unfold LAns at HLT0
  have HH := Lib.hid h
  have H0 := Lib.hid h0
  have HO := Lib.hid h.len
  have HBB := Lib.hid hb
  have HNC := Lib.hid (And.intro h.rd.1 h.rd.2.1)
  clear h h0 hb
  go_enter Try.func4, Try.ntmps4
  go_wp2_with (first
    | (go_at_call 7
       refine HLT0.out.mono ?_
       rintro e w1 ⟨b1, rfl, hf1, hb1⟩
       have HF1 := Lib.hid hf1
       have HB1 := Lib.hid hb1
       have HBS := Lib.hid hb1.size
       clear hf1 hb1
       cases b1)
    | fail)
  · go_wp2_with (first
      | (go_at_call 8; refine (HV.out _).mono ?_; rintro e w8 ⟨rfl, hb8⟩)
      | fail)
    go_ret
    exact ⟨rfl, HB1.out.trans (hb8.mono HB1.out.size)⟩
  have hfit := HF1.out trivial
  have hn12 : n ≤ 12 := by have := hfit.1; have := HO.out; omega
  have hni : (n : Int) ≤ 12 := by omega
  have hnc : (n : Int) ≤ (c : Int) := by have := HNC.out.1; omega
  have hcM : (c : Int) ≤ 9223372036854775807 := by have := HNC.out.2; unfold maxLen at this; omega
  have HFI := Lib.hid hfit
  have HN := Lib.hid (fun (w' : World) (hb : Below w.heap.size w w') => new_took (H0.out.below hb) hfit.2.2.1 (by have := H0.out.len; have := hfit.2.2.2.1; omega) N sf 9 base (by decide) HBB.out)
  clear hfit hn12
  go_wp2_with (first
    | (go_at_call 9
       refine (HN.out _ HB1.out).mono ?_
       rintro e w2 ⟨pa, oa, rfl, hpa, hna, hia, hb2⟩
       have HPA := Lib.hid hpa
       have HA := Lib.hid hna
       have HIA := Lib.hid hia
       have HB2 := Lib.hid (HB1.out.trans (hb2.mono HB1.out.size))
       clear hpa hna hb2 HB1 hia)
    | (go_at_call 9
       refine (HN.out _ HB2.out).mono ?_
       rintro e w3 ⟨pb, ob, rfl, hpb, hnb, hib, hb3⟩
       have HJ := Lib.hid (show OJ w w3 pa pb N sf own [] [] 9 base oa ob from ⟨⟨HB2.out.trans (hb3.mono HB2.out.size), HPA.out.below hb3, hpb, fun b x e => ⟨(HA.out b x e).1, Nat.le_trans HBS.out (HA.out b x e).2.1⟩, fun b x e => ⟨(hnb b x e).1, Nat.le_trans HB2.out.size (hnb b x e).2.1⟩, fun b x b' x' e e' hm => by
         have h4 := (hnb b' x' e').2.1
         have h5 := HPA.out
         rw [e] at h5
         have h6 := h5.2.map.lt
         omega⟩, fun b x e => (HA.out b x e).2.2.1, fun b x e => (HA.out b x e).2.2.2, fun b x e => (hnb b x e).2.2.2, by rw [Bool.eq_iff_iff, HIA.out, hib]⟩)
       clear hpb hnb hb3 HPA HA hib HIA)
    | fail)
  go_loopw [13, 15, 16, 17, 36] (fun _ _ _ _ kv wr => ∃ (i : Nat) (oa' ob' : Option (Nat × Bl)), i ≤ n ∧ kv = .int .i64 (i : Int) ∧ Hid (OJ w wr pa pb N sf own (l.take i) (l.reverse.take i) 9 base oa' ob') ∧ Hid ((l.take i).Pairwise fun u v => u.nd ≠ v.nd)) (fun _ _ _ _ kv _ => n - (intOf kv).toNat)
  case atStart => exact ⟨0, oa, ob, Nat.zero_le _, rfl, HJ, Lib.hid List.Pairwise.nil⟩
  case round =>
    clear HJ
    obtain ⟨i, oa', ob', hi, rfl, HJ, HPW⟩ := hrel
    by_cases hlt : i < n
    · have hlen := HO.out
      obtain ⟨v, hv⟩ : ∃ v, l[i]? = some v := ⟨_, List.getElem?_eq_getElem (by omega)⟩
      obtain ⟨k, hk⟩ : ∃ k, k + 1 + i = n := ⟨n - 1 - i, by omega⟩
      obtain ⟨y, hy⟩ : ∃ y, l[k]? = some y := ⟨_, List.getElem?_eq_getElem (by omega)⟩
      obtain ⟨b, o, rfl, hbb, hcc⟩ := HH.out.at_ (by omega)
      have HCC := Lib.hid (fun (j : Nat) (u : Vo) (hu : l[j]? = some u) (W : World) (hW : Below w.heap.size w W) => And.intro (show W.cell? ⟨b, o + j * 2, none⟩ = some (.int .i64 u.nd) from (hW.cell (p := ⟨b, o + j * 2, none⟩) hbb).trans (hcc j u hu 0 _ rfl)) (show W.cell? ⟨b, o + j * 2 + 1, none⟩ = some u.l.v from (hW.cell (p := ⟨b, o + j * 2 + 1, none⟩) hbb).trans (by have := hcc j u hu 1 _ rfl; rwa [← Nat.add_assoc] at this)))
      have HVV := Lib.hid hv
      have HYY := Lib.hid hy
      have HLT := Lib.hid hlt
      have HKK := Lib.hid hk
      have hii : (i : Int) < (n : Int) := by omega
      have hic : (i : Int) ≤ (c : Int) := by omega
      have hki : (n : Int) - 1 - (i : Int) = (k : Int) := by omega
      have hkn : (k : Int) < (n : Int) := by omega
      clear hcc hv hy hlt hk hlen
      go_wp2_with (fail)
      obtain ⟨wo, rfl⟩ : ∃ wo : World, wo = wr := ⟨_, rfl⟩
      go_loopw [15, 43] (fun _ kv wr => ∃ j : Nat, j ≤ i ∧ kv = .int .i64 (j : Int) ∧ Hid (∀ a u, a < j → l[a]? = some u → u.nd ≠ v.nd) ∧ Hid (Below wo.heap.size wo wr)) (fun _ kv _ => i - (intOf kv).toNat)
      case atStart => exact ⟨0, Nat.zero_le _, rfl, Lib.hid (fun a u h => absurd h (Nat.not_lt_zero _)), Lib.hid (Below.refl _ _)⟩
      case round =>
        obtain ⟨j, hj, rfl, HD, HBx⟩ := hrel
        have HJ2 := Lib.hid (HJ.out.below HBx.out)
        by_cases hjl : j < i
        · obtain ⟨u, hu⟩ : ∃ u, l[j]? = some u := ⟨_, List.getElem?_eq_getElem (by have := HO.out; omega)⟩
          obtain ⟨k0, k1⟩ := HCC.out j u hu wr HJ2.out.j.bel
          have HUU := Lib.hid hu
          have HJL := Lib.hid hjl
          have hji : (j : Int) < (i : Int) := by omega
          obtain ⟨und, ⟨uA, un, uc, ues⟩⟩ := u
          unfold Li.v at k1
          dsimp only at k0 k1
          have HBZ := Lib.hid (HJ2.out.j.bel.alloc HJ2.out.j.bel.size (.cells #[.int .i64 und, .slice uA un uc] 32))
          have HBY := Lib.hid (HBx.out.alloc HBx.out.size (.cells #[.int .i64 und, .slice uA un uc] 32))
          clear hu hjl
          by_cases hq : und = v.nd
          · subst hq
            have q1 : decide (v.nd = v.nd) = true := by simp
            go_wp2_with (fail)
            have m1 := (HCC.out i v HVV.out _ HBZ.out).1
            go_quiet (fail)
            go_wp2_with (first
              | (go_at_call 8; refine (HV.out _).mono ?_; rintro e w8 ⟨rfl, hb8⟩)
              | fail)
            go_ret
            exact ⟨rfl, HBZ.out.trans (((drewN_below _ _).trans (hb8.mono (drewN_below _ _).size)).mono HBZ.out.size)⟩
          · have q1 : decide (und = v.nd) = false := by simpa using hq
            have HQN := Lib.hid hq
            go_wp2_with (fail)
            have m1 := (HCC.out i v HVV.out _ HBZ.out).1
            go_quiet (fail)
            go_wp2_with (fail)
            go_roundw
            case rel => exact ⟨j + 1, HJL.out, by go_num, Lib.hid (fun a u ha hu => by
                rcases Nat.lt_or_ge a j with h1 | h1
                · exact HD.out a u h1 hu
                · obtain rfl : a = j := by omega
                  rw [HUU.out] at hu
                  cases hu
                  exact HQN.out), Lib.hid (HBY.out.trans ((drewN_below _ _).mono HBY.out.size))⟩
            case measure => have := HJL.out; simp [intOf]; omega
        · obtain rfl : j = i := by omega
          have hW := HJ2.out.j.bel
          have HVC := Lib.hid (fun W hb => HCC.out j v HVV.out W hb)
          have HYC := Lib.hid (fun W hb => HCC.out k y HYY.out W hb)
          obtain ⟨a0, a1⟩ := HCC.out j v HVV.out wr hW
          obtain ⟨b0, b1⟩ := HCC.out k y HYY.out wr hW
          have HEV := Lib.hid (show Ents w v.l.A v.l.n v.l.c v.l.es from (HH.out.reads v (List.mem_of_getElem? HVV.out)).2)
          have HEY := Lib.hid (show Ents w y.l.A y.l.n y.l.c y.l.es from (HH.out.reads y (List.mem_of_getElem? HYY.out)).2)
          have HFV := Lib.hid (HFI.out.2.2.2.2 v (List.mem_of_getElem? HVV.out))
          have HFY := Lib.hid (HFI.out.2.2.2.2 y (List.mem_of_getElem? HYY.out))
          have HTA := Lib.hid (show l.take (j + 1) = l.take j ++ [v] from by rw [List.take_add_one, HVV.out]; rfl)
          have HTB := Lib.hid (show l.reverse.take (j + 1) = l.reverse.take j ++ [y] from by
            have hr : l.reverse[j]? = some y := by
              rw [List.getElem?_reverse (by have := HO.out; have := HLT.out; omega), ← HYY.out]
              congr 1
              have := HO.out
              have := HKK.out
              omega
            rw [List.take_add_one, hr]
            rfl)
          have HPN := Lib.hid (show (l.take (j + 1)).Pairwise (fun u v => u.nd ≠ v.nd) from by
            rw [HTA.out, List.pairwise_append]
            refine ⟨HPW.out, List.pairwise_singleton _ _, fun u hu x hx => ?_⟩
            cases List.mem_singleton.1 hx
            obtain ⟨a, ha⟩ := List.getElem?_of_mem hu
            rw [List.getElem?_take] at ha
            split at ha
            · exact HD.out a u (by assumption) ha
            · cases ha)
          have HCE := Lib.hid (fun a b : Nat => HD)
          have wr1 : IntKind.i64.wrap ((n : Int) - 1) = (n : Int) - 1 := IntWalk.i64_in _ (by omega)
          have wr2 : IntKind.i64.wrap ((n : Int) - 1 - (j : Int)) = (k : Int) := by rw [hki]; exact IntWalk.i64_in _ (by omega)
          obtain ⟨vnd, ⟨vA, vn, vc, ves⟩⟩ := v
          obtain ⟨ynd, ⟨yA, yn, yc, yes⟩⟩ := y
          unfold Li.v at a1 b1
          dsimp only at a0 a1 b0 b1
          clear HCC HVC HYC hW HD HCE
          obtain ⟨wz, rfl⟩ : ∃ wz : World, wz = wr := ⟨_, rfl⟩
          go_wp2_with (fail)
          go_cut [16, 17] (fun u v wx => ∃ p q, u = .pointer (some ⟨p, 0, none⟩) ∧ v = .pointer (some ⟨q, 0, none⟩) ∧ Hid (Below wz.heap.size wz wx) ∧ Hid (wx.heap[p]? = some (.cells #[.int .i64 vnd, .slice vA vn vc] 32 (0, 0))) ∧ Hid (wx.heap[q]? = some (.cells #[.int .i64 ynd, .slice yA yn yc] 32 (0, 0))))
          case first =>
            have a0d : wz.drew.cell? ⟨b, o + j * 2, none⟩ = _ := a0
            have a0x : ∀ o2 : Obj, (wz.alloc o2).drew.cell? ⟨b, o + j * 2, none⟩ = _ := fun o => cell_old o a0
            have a0y : ∀ o1 o2 : Obj, ((wz.alloc o1).alloc o2).drew.cell? ⟨b, o + j * 2, none⟩ = _ := fun o o' => cell_old o' (cell_old o a0)
            have a1d : wz.drew.cell? ⟨b, o + j * 2 + 1, none⟩ = _ := a1
            have a1x : ∀ o2 : Obj, (wz.alloc o2).drew.cell? ⟨b, o + j * 2 + 1, none⟩ = _ := fun o => cell_old o a1
            have a1y : ∀ o1 o2 : Obj, ((wz.alloc o1).alloc o2).drew.cell? ⟨b, o + j * 2 + 1, none⟩ = _ := fun o o' => cell_old o' (cell_old o a1)
            have b0d : wz.drew.cell? ⟨b, o + k * 2, none⟩ = _ := b0
            have b0x : ∀ o2 : Obj, (wz.alloc o2).drew.cell? ⟨b, o + k * 2, none⟩ = _ := fun o => cell_old o b0
            have b0y : ∀ o1 o2 : Obj, ((wz.alloc o1).alloc o2).drew.cell? ⟨b, o + k * 2, none⟩ = _ := fun o o' => cell_old o' (cell_old o b0)
            have b1d : wz.drew.cell? ⟨b, o + k * 2 + 1, none⟩ = _ := b1
            have b1x : ∀ o2 : Obj, (wz.alloc o2).drew.cell? ⟨b, o + k * 2 + 1, none⟩ = _ := fun o => cell_old o b1
            have b1y : ∀ o1 o2 : Obj, ((wz.alloc o1).alloc o2).drew.cell? ⟨b, o + k * 2 + 1, none⟩ = _ := fun o o' => cell_old o' (cell_old o b1)
            go_region
            all_goals go_wp2_with (fail)
            all_goals go_meet
            all_goals first
              | exact ⟨_, _, rfl, rfl, Lib.hid (two_below _ _ _), Lib.hid (Qu.row_old (w := wz.alloc _) _ (Qu.row_here wz _ rfl)), Lib.hid (Qu.row_here (wz.alloc _) _ (by simp))⟩
              | exact ⟨_, _, rfl, rfl, Lib.hid (two_below _ _ _), Lib.hid (Qu.row_here (wz.alloc _) _ (by simp)), Lib.hid (Qu.row_old (w := wz.alloc _) _ (Qu.row_here wz _ rfl))⟩
          case rest =>
            obtain ⟨p, q, rfl, rfl, HBQ, Hp, Hq⟩ := hcut
            have HJ3 := Lib.hid (HJ2.out.below HBQ.out)
            have p0 : wc.cell? ⟨p, 0, none⟩ = some (.int .i64 vnd) := cell_of_row _ p 0 _ _ _ Hp.out
            have p1 : wc.cell? ⟨p, 1, none⟩ = some (.slice vA vn vc) := cell_of_row _ p 1 _ _ _ Hp.out
            have HGA := Lib.hid (oj_grant HJ3.out ⟨vnd, ⟨vA, vn, vc, ves⟩⟩ (HEV.out.below HJ3.out.j.bel) HFV.out.2 (by have := HFV.out.1; have := HEV.out.len; dsimp only at *; omega))
            clear HJ2 HJ3 HBQ Hp
            go_wp2_with (first
              | (go_at_call 10
                 refine HGA.out.mono ?_
                 rintro e w5 ⟨r0, oa2, rfl, hoj, hrow⟩
                 have q0 : w5.cell? ⟨q, 0, none⟩ = some (.int .i64 ynd) := cell_of_row _ q 0 _ _ _ (hrow q _ _ Hq.out)
                 have q1 : w5.cell? ⟨q, 1, none⟩ = some (.slice yA yn yc) := cell_of_row _ q 1 _ _ _ (hrow q _ _ Hq.out)
                 have HGB := Lib.hid (oj_grant hoj.turn ⟨ynd, ⟨yA, yn, yc, yes⟩⟩ (HEY.out.below hoj.j.bel) HFY.out.2 (by have := HFY.out.1; have := HEY.out.len; dsimp only at *; omega))
                 clear HGA hoj hrow)
              | (go_at_call 10
                 refine HGB.out.mono ?_
                 rintro e w6 ⟨r1, ob2, rfl, hoj, hrow⟩
                 have HJ4 := Lib.hid hoj.turn
                 clear hoj hrow HGB)
              | fail)
            go_roundw
            case rel => exact ⟨j + 1, oa2, ob2, HLT.out, by go_num, by rw [HTA.out, HTB.out]; exact HJ4, HPN⟩
            case measure => have := HLT.out; simp [intOf]; omega
    · obtain rfl : i = n := by omega
      have HJE := Lib.hid (show OJ w wr pa pb N sf own l l.reverse 9 base oa' ob' from by
        have h1 := HJ.out
        have h2 := HO.out
        rwa [List.take_of_length_le (by omega), List.take_of_length_le (by simp; omega)] at h1)
      have HPE := Lib.hid (show l.Pairwise (fun u v => u.nd ≠ v.nd) from by
        have h1 := HPW.out
        have h2 := HO.out
        rwa [List.take_of_length_le (by omega)] at h1)
      obtain ⟨hv, hw, _⟩ := oj_end HJE.out HPE.out
      have HOA := Lib.hid (fun w' (hb : Below wr.heap.size wr w') => bp_vot (HJE.out.below hb).j.a)
      have HOB := Lib.hid (fun w' (hb : Below wr.heap.size wr w') => bp_vot (HJE.out.below hb).j.b)
      have HWA := Lib.hid (fun w' (hb : Below wr.heap.size wr w') => bp_won (HJE.out.below hb).j.a)
      have HWB := Lib.hid (fun w' (hb : Below wr.heap.size wr w') => bp_won (HJE.out.below hb).j.b)
      have HMA := Lib.hid (fun w' (hb : Below wr.heap.size wr w') => merge_o (HJE.out.below hb).j.a (fun b x e => by rw [(HJE.out.ta b x e).2.2]; exact HFI.out.2.1) 3)
      have HMB := Lib.hid (fun w' (hb : Below wr.heap.size wr w') => merge_o (HJE.out.below hb).j.b (fun b x e => by rw [(HJE.out.tb b x e).2.2]; exact HFI.out.2.1) 3)
      have HMS := Lib.hid (fun (H H' : Nat) (es es' : List En) (wa wb : World) (A A' : Option Addr) (c c' : Nat) (he : Ents wa A H c es) (he' : Ents wb A' H' c' es') (ha : Mof 3 H es oa') (hb : Mof 3 H' es' ob') => mof_same HJE.out HPE.out he he' ha hb)
      have HBW := Lib.hid HJE.out.j.bel
      have HBc := Lib.hid (Below.refl wr.heap.size wr)
      rw [← hv] at HOB
      rw [← hw] at HWB
      unfold TVal at HOA HOB HWA HWB
      generalize votO oa' = VA at *
      generalize wonO oa' = WA at *
      clear HJ HJE HPE HPW hv hw
      have e1 : decide ((VA : Int) = (VA : Int)) = true := by simp
      have e2 : decide (WA = WA) = true := by simp
      go_wp2_with (first
        | (go_at_call 12
           refine (HOA.out _ HBc.out).mono ?_
           rintro e w4 ⟨rfl, hb4⟩
           replace HBc := Lib.hid (HBc.out.trans (hb4.mono HBc.out.size))
           clear hb4 HOA)
        | (go_at_call 12
           refine (HOB.out _ HBc.out).mono ?_
           rintro e w5 ⟨rfl, hb4⟩
           replace HBc := Lib.hid (HBc.out.trans (hb4.mono HBc.out.size))
           clear hb4 HOB)
        | (go_at_call 14
           refine (HWA.out _ HBc.out).mono ?_
           rintro e w6 ⟨rfl, hb4⟩
           replace HBc := Lib.hid (HBc.out.trans (hb4.mono HBc.out.size))
           clear hb4 HWA)
        | (go_at_call 14
           refine (HWB.out _ HBc.out).mono ?_
           rintro e w7 ⟨rfl, hb4⟩
           replace HBc := Lib.hid (HBc.out.trans (hb4.mono HBc.out.size))
           clear hb4 HWB)
        | (go_at_call 13
           refine (HMA.out _ HBc.out).mono ?_
           rintro e w8 ⟨A1, H1, c1, es1, rfl, he1, hm1, hb4⟩
           have HE1 := Lib.hid he1
           have HM1 := Lib.hid hm1
           replace HBc := Lib.hid (HBc.out.trans (hb4.mono HBc.out.size))
           clear hb4 HMA he1 hm1)
        | (go_at_call 13
           refine (HMB.out _ HBc.out).mono ?_
           rintro e w9 ⟨A2, H2, c2, es2, rfl, he2, hm2, hb4⟩
           obtain ⟨hH, hS⟩ := HMS.out _ _ _ _ _ _ _ _ _ _ HE1.out he2 HM1.out hm2
           subst hH
           have HSA := Lib.hid (sames_any (HE1.out.below hb4) he2 hS)
           replace HBc := Lib.hid (HBc.out.trans (hb4.mono HBc.out.size))
           clear hb4 HMB he2 hm2 hS HE1 HM1)
        | (go_at_call 15
           refine HSA.out.mono ?_
           rintro e w10 ⟨rfl, hb4⟩
           replace HBc := Lib.hid (HBc.out.trans (hb4.mono HBc.out.size))
           clear hb4 HSA)
        | (go_at_call 8
           refine (HV.out _).mono ?_
           rintro e w11 ⟨rfl, hb4⟩
           replace HBc := Lib.hid (HBc.out.trans (hb4.mono HBc.out.size))
           clear hb4)
        | fail)
      go_ret
      exact ⟨rfl, HBW.out.trans (HBc.out.mono HBW.out.size)⟩

namespace ballotOrder
open Go.ChangeShapes Go.WideShapes Go.ChangeAt
set_option maxRecDepth 100000 in
theorem lifted (os : Os) (started : os.Started) (H : Type) (enc : TypeId × Value → H) :
    ReturnsInHanded {} Try.checked os 4 .any (Rows.ballotOrderSpec.pre6 enc Try.prog Try.f4 Rows.ballotOrderRow.domain false) (Rows.ballotOrderSpec.post enc Try.prog Try.f4 false true false false) := by
  refine returnsInHanded_of_change (C := Try.checked) own started (by kernel_rfl) Try.func4
    (ChangeSpec.witness6 (enc := enc) (C := Try.checked) false ⟨#[], #[.int .i64 0, .int .i64 0, .int .u64 0, .slice none 0 0, .slice none 0 0], []⟩ 8 (by kernel_rfl) (by kernel_rfl) (by kernel_rfl) (by kernel_rfl)) ?_
  intro W base args ds gs before hval0 hW _ _
  have hval : ∀ (j : Nat) t v, Try.f4.params[j]? = some t → args[j]? = some v → Value.okWide Try.prog W .any base t v := hval0
  have hW' := hW
  obtain ⟨p, q, hA0, hV, rfl, hfz, hnd⟩ := hW
  have hA : DataW.TrodAll enc Try.prog W 0 (fun _ => true) true Try.f4.params.toList args.toList ds p := hA0
  rw [Try.params4] at hA hval
  obtain ⟨v0, vs0, d0, ds0, p0, q0, hargs, rfl, rfl, h0, r0⟩ := trodAll_cons hA
  obtain ⟨v1, vs1, d1, ds1, p1, q1, rfl, rfl, rfl, h1, r1⟩ := trodAll_cons r0
  obtain ⟨v2, vs2, d2, ds2, p2, q2, rfl, rfl, rfl, h2, r2⟩ := trodAll_cons r1
  obtain ⟨v3, vs3, d3, ds3, p3, q3, rfl, rfl, rfl, h3, r3⟩ := trodAll_cons r2
  obtain ⟨v4, vs4, d4, ds4, p4, q4, rfl, rfl, rfl, h4, r4⟩ := trodAll_cons r3
  obtain ⟨rfl, rfl, rfl⟩ := trodAll_nil r4
  obtain rfl : args = #[v0, v1, v2, v3, v4] := by cases args; simp_all
  obtain ⟨rfl, rfl⟩ := trodVars_none hV
  have k0 := h0
  have lt0 : ∀ x ∈ p0, x.block < W.heap.size := by obtain ⟨m, hm⟩ := k0; exact DataW.trod_lt m _ _ _ hm
  obtain ⟨x0, rfl, w0⟩ := dec_int Try.underlying3 (hval 0 3 v0 rfl rfl) h0
  have k1 := h1
  have lt1 : ∀ x ∈ p1, x.block < W.heap.size := by obtain ⟨m, hm⟩ := k1; exact DataW.trod_lt m _ _ _ hm
  obtain ⟨x1, rfl, w1⟩ := dec_int Try.underlying3 (hval 1 3 v1 rfl rfl) h1
  have k2 := h2
  have lt2 : ∀ x ∈ p2, x.block < W.heap.size := by obtain ⟨m, hm⟩ := k2; exact DataW.trod_lt m _ _ _ hm
  obtain ⟨x2, rfl, w2⟩ := dec_u64 Try.underlying22 (hval 2 22 v2 rfl rfl) h2
  have k3 := h3
  have lt3 : ∀ x ∈ p3, x.block < W.heap.size := by obtain ⟨m, hm⟩ := k3; exact DataW.trod_lt m _ _ _ hm
  obtain ⟨a3, n3, c3, l3, rfl, w3⟩ := dec_entries Try.underlying23 entryT (hval 3 23 v3 rfl rfl) h3
  have k4 := h4
  have lt4 : ∀ x ∈ p4, x.block < W.heap.size := by obtain ⟨m, hm⟩ := k4; exact DataW.trod_lt m _ _ _ hm
  obtain ⟨a4, n4, c4, l4, rfl, w4⟩ := Vo.dec (hval 4 24 v4 rfl rfl) h4
  clear hA0 hval0
  refine (ballotOrder_walk x0 w0 x1 w1 x2 w2 w3 w4).mono fun e W' ⟨he, bel⟩ => ?_
  subst he
  exact ⟨_, rfl, _, _, _, [], _, [], hW', trodAll_mk1 (shut_bool Try.underlying4 _), (trodAll_cons_mk (Below.trod laidOut (by kernel_rfl) (of_decide_eq_true (by kernel_rfl)) k0 bel lt0) (trodAll_cons_mk (Below.trod laidOut (by kernel_rfl) (of_decide_eq_true (by kernel_rfl)) k1 bel lt1) (trodAll_cons_mk (Below.trod laidOut (by kernel_rfl) (of_decide_eq_true (by kernel_rfl)) k2 bel lt2) (trodAll_cons_mk (Below.trod laidOut (by kernel_rfl) (of_decide_eq_true (by kernel_rfl)) k3 bel lt3) (trodAll_cons_mk (Below.trod laidOut (by kernel_rfl) (of_decide_eq_true (by kernel_rfl)) k4 bel lt4) trodAll_mk0))))), rfl, bel.frame _, fun h => by cases h⟩

theorem over : Rows.ballotOrderRow.holds Try.pinned (OpenSpec.ofChange Rows.ballotOrderSpec) :=
  OpenClaim.holds_of_wide 4 Try.f4 rfl rfl rfl rfl rfl rfl rfl ⟨rfl, rfl, rfl, rfl, rfl⟩ rfl rfl rfl rfl rfl (by kernel_rfl) Try.func4 (by kernel_rfl)
    (of_decide_eq_true (by kernel_rfl)) (by unfold Func.isWrapper; first | (rw [if_pos (by decide +kernel)]; kernel_rfl) | (rw [if_neg (by decide +kernel)]; exact ⟨rfl, rfl⟩))
    (fun os started H enc _ => lifted os started H enc)
/-- The given statement. -/
theorem proved : Rows.BallotOrderSaid := over
end ballotOrder

end Go.Proofs.Ytapfggpeodpflaa

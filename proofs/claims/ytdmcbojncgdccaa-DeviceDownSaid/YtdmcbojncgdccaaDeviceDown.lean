/- DeviceDown: once the power is gone nothing is told but that, and nothing changes. -/
import Derived.Test.YtdmcbojncgdccaaEqual
import Derived.Test.YtdmcbojncgdccaaDeviceFirm
namespace Go.Proofs.Ytdmcbojncgdccaa
open Go.RowKit

theorem flush_down (g : Nat) (w : World) (c4 : w.cell? ⟨g, 4, none⟩ = some (.bool true)) : Calls Try.prog 12 #[.pointer (some ⟨g, 0, none⟩)] w fun e w' => e = .returned (.int .i64 50) ∧ w = w' := by
  go_enter Try.func12, Try.ntmps12
  go_wp2_with (go_at_call 28; refine (power_at g true _ c4).mono ?_; rintro e w1 ⟨rfl, rfl⟩)
  go_ret
  exact ⟨rfl, rfl⟩
theorem Dv.fused_flush (d : Dv) (h : d.down = false) : (d.fused 0).flush.2 = 50 ∧ (d.fused 0).flush.1.down = true ∧ (d.fused 0).flush.1.ws = d.ws := by
  obtain ⟨n, S, ws, down, fuse, done⟩ := d
  dsimp only at h
  subst h
  exact ⟨rfl, rfl, rfl⟩

set_option maxHeartbeats 8000000 in
set_option maxRecDepth 8000 in
theorem deviceDown_walk {w : World} {A1 : Option Addr} {n1 c1 : Nat} {os1 : List Opd} (h1 : Ops w A1 n1 c1 os1) {A2 : Option Addr} {n2 c2 : Nat} {os2 : List Opd} (h2 : Ops w A2 n2 c2 os2) :
    Calls Try.prog 5 #[.slice A1 n1 c1, .slice A2 n2 c2] w fun e w' => e = .returned (.bool true) ∧ Below w.heap.size w w' := by
  have hn1 : (n1 : Int) ≤ 9223372036854775807 := by have a := h1.rd.1; have b := h1.rd.2.1; unfold maxLen at b; omega
  have hn2 : (n2 : Int) ≤ 9223372036854775807 := by have a := h2.rd.1; have b := h2.rd.2.1; unfold maxLen at b; omega
  have H1 := Lib.hid h1
  have H2 := Lib.hid h2
  clear h1 h2
  go_enter Try.func5, Try.ntmps5
  go_wp2_with (first
    | (go_at_call 7; refine (light_any (H2.out.below HB1.out)).mono ?_; rintro e w2 ⟨b2, rfl, hf2, hb2⟩
       have HF2 := Lib.hid hf2
       have HB2 := Lib.hid (HB1.out.trans (hb2.mono HB1.out.size))
       clear hf2 hb2
       cases b2)
    | (go_at_call 7; refine (light_any H1.out).mono ?_; rintro e w1 ⟨b1, rfl, hf1, hb1⟩
       have HF1 := Lib.hid hf1
       have HB1 := Lib.hid hb1
       clear hf1 hb1
       cases b1)
    | (go_at_call 8; refine (dlives _).mono ?_; rintro e w9 ⟨rfl, hb9⟩)
    | (go_at_call 9; refine (new_good 20 _ (by omega) (by omega)).mono ?_; rintro e w3 ⟨F3, g, rfl, hD3, hb3⟩
       have HD3 := Lib.hid hD3
       have HZ3 := Lib.hid HB2.out.size
       have HB3 := Lib.hid (HB2.out.trans (hb3.mono HB2.out.size))
       clear hD3 hb3)
    | (go_at_call 10; refine (rnew_good 20 _ (by omega) (by omega)).mono ?_; rintro e w4 ⟨rfl, hR4, hb4⟩
       have HP4 := Lib.hid (pair_new HD3.out HZ3.out HB3.out.size hR4 hb4)
       have HB4 := Lib.hid (HB3.out.trans (hb4.mono HB3.out.size))
       clear hR4 hb4)
    | fail)
  · go_ret
    exact ⟨rfl, HB1.out.trans (hb9.mono HB1.out.size)⟩
  · go_ret
    exact ⟨rfl, HB2.out.trans (hb9.mono HB2.out.size)⟩
  obtain ⟨q, hq⟩ : ∃ q, q = w3.heap.size := ⟨_, rfl⟩
  have hP4 := HP4.out
  have hB3 := HB3.out.size
  rw [← hq] at hP4 hB3
  rw [← hq]
  have HP := Lib.hid hP4
  have HQ := Lib.hid hB3
  have HFA := Lib.hid (HF1.out trivial)
  have HFB := Lib.hid (HF2.out trivial)
  clear hP4 hB3 hq HP4 HD3 HB3 HZ3 HF1 HF2
  go_loopw [33] (fun ir wr => ∃ (i : Nat) (dd : Dv), i ≤ n1 ∧ ir = .int .i64 (i : Int) ∧ Pair wr w.heap.size g q (fun i => w.heap.size ≤ i) (16 * i) dd ∧ dd.n = 20 ∧ Below w.heap.size w wr) (fun ir _ => n1 - (intOf ir).toNat)
  case atStart => exact ⟨0, Dv.new 20, Nat.zero_le _, rfl, HP.out, rfl, HB4.out⟩
  case round =>
    obtain ⟨i, dd, hi, rfl, hP, hdn, hb⟩ := hrel
    have HB := Lib.hid hb
    have HPP := Lib.hid hP
    have HDN := Lib.hid hdn
    clear hb hP hdn
    by_cases hlt : i < n1
    · obtain ⟨p, hp⟩ : ∃ p, os1[i]? = some p := ⟨_, List.getElem?_eq_getElem (by have := H1.out.len; omega)⟩
      have hmem := List.mem_of_getElem? hp
      obtain ⟨hf1, hf2⟩ := HFA.out.2 p hmem
      obtain ⟨b, o, rfl, hbb, hcc⟩ := H1.out.rd.2.2.2 (by omega)
      have hi60 : i ≤ 60 := by have := HFA.out.1; have := H1.out.len; omega
      have hdo := fun (cs : Obj) => do_next (w := w) (wr := wr.alloc cs) (q := q) (F := fun i => w.heap.size ≤ i) (fun i hi => hi) (HPP.out.keeps (F := fun i => w.heap.size ≤ i) (G := fun _ => False) ((Keeps.refl _ _).alloc cs) (fun i hi => hi.elim)) (by omega) (HB.out.alloc HB.out.size cs) p (H1.out.reads p hmem) hf1 hf2
      have hop := Dv.op_n dd p
      obtain ⟨kd, x1, n', A', bn, bc, l, A2', kn', kc', ks'⟩ := p
      have hc := fun j u (hu : (Opd.cells ⟨kd, x1, n', A', bn, bc, l, A2', kn', kc', ks'⟩)[j]? = some u) => (HB.out.cell (p := ⟨b, o + (i * 5 + j), none⟩) hbb).trans (hcc _ _ (opsv_get os1 i _ hp j u hu))
      have k0 : wr.cell? ⟨b, o + i * 5, none⟩ = some (.int .i64 kd) := hc 0 _ rfl
      have k1 : wr.cell? ⟨b, o + i * 5 + 1, none⟩ = some (.int .i64 x1) := hc 1 _ rfl
      have k2 : wr.cell? ⟨b, o + i * 5 + 2, none⟩ = some (.int .i64 n') := hc 2 _ rfl
      have k3 : wr.cell? ⟨b, o + i * 5 + 3, none⟩ = some (.slice A' bn bc) := hc 3 _ rfl
      have k4 : wr.cell? ⟨b, o + i * 5 + 4, none⟩ = some (.slice A2' kn' kc') := hc 4 _ rfl
      have hlti : (i : Int) < (n1 : Int) := by omega
      have hii : (i : Int) ≤ 60 := by omega
      have HDO := Lib.hid hdo
      have HOP := Lib.hid hop
      clear hc hcc hp hmem hdo hop hf1 hf2
      go_wp2_with (first
        | (go_at_call 11; refine (HDO.out _).mono ?_; rintro e w5 ⟨⟨b5, rfl⟩, hP5, hK5⟩)
        | fail)
      have hb5 := (HB.out.alloc HB.out.size _).trans (hK5.below (B := w.heap.size) (Nat.le_trans HB.out.size (by simp)) (fun i hi => hi))
      go_roundw
      case rel => exact ⟨i + 1, _, by omega, by go_num, hP5.mono (by omega) (fun j hj => hj.elim id (fun h => Nat.le_trans HB.out.size (Nat.le_trans (by simp) h))), HOP.out.trans HDN.out, hb5⟩
      case measure => simp [intOf]; omega
    · obtain rfl : i = n1 := by omega
      have hi60 : i ≤ 60 := by have := HFA.out.1; have := H1.out.len; omega
      have hO0 := Own.of_pair HPP.out
      have hHI := Lib.hid hi60
      cases hdw : dd.down with
      | true =>
        have c4 := hO0.c4
        rw [hdw] at c4
        obtain ⟨bs, bl, v, k, hD, hk, hdo, hfoot⟩ := hO0
        have HDD := Lib.hid hD
        have HWS := Lib.hid (show dd.ws.length ≤ 100000 by omega)
        have HBZ := Lib.hid HB.out
        clear hD hk hdo hfoot hi60 hdw
        go_wp2_with (first
          | (go_at_call 17; refine (down_at g true _ c4).mono ?_; rintro e wz ⟨rfl, rfl⟩)
          | (go_at_call 19; refine (clone_any HDD.out HWS.out).mono ?_; rintro e wc ⟨b1, b2, v', rfl, hrow, hsm, hown, hbc⟩)
          | fail)
        have hgz := block_lt_of_cell c4
        have hgc : g < wc.heap.size := Nat.lt_of_lt_of_le hgz hbc.size
        have c4c := (hbc.cell (p := ⟨g, 4, none⟩) hgz).trans c4
        have hDc := HDD.out.below hbc
        have hsmc : wc.heap[b1]? = wc.heap[bs]? := hsm.trans (hbc.block bs HDD.out.safe.lt).symm
        have hbw := HBZ.out.trans (hbc.mono HBZ.out.size)
        have hsame := fun (W : World) (hb : Below wc.heap.size wc W) => same_any (hDc.below hb) HWS.out ((hb.block _ (Array.getElem?_eq_some_iff.1 hrow).1).trans hrow) ((hb.block b1 (by
          obtain ⟨D, ⟨es, clock, o1, _⟩, _⟩ := hDc.safe
          rw [o1] at hsmc
          exact (Array.getElem?_eq_some_iff.1 hsmc).1)).trans (hsmc.trans (hb.block bs hDc.safe.lt).symm)) (hown.kept (below_grown hb none) (by cases v'.ownBlock <;> simp))
        have HSAME := Lib.hid hsame
        have HC4 := Lib.hid c4c
        have HGC := Lib.hid hgc
        have HBW := Lib.hid hbw
        clear hsame c4c hgc hbw hDc hsmc hrow hsm hown hbc hgz c4
        go_loopw [54] (fun ir wq => ∃ (j : Nat), j ≤ n2 ∧ ir = .int .i64 (j : Int) ∧ Below wc.heap.size wc wq) (fun ir _ => n2 - (intOf ir).toNat)
        case atStart => exact ⟨0, Nat.zero_le _, rfl, Below.refl _ _⟩
        case round =>
          obtain ⟨j, hj, rfl, hbj⟩ := hrel
          have HBJ := Lib.hid hbj
          have hc4j := (hbj.cell (p := ⟨g, 4, none⟩) HGC.out).trans HC4.out
          have hgj : g < wr.heap.size := Nat.lt_of_lt_of_le HGC.out hbj.size
          clear hbj
          by_cases hltj : j < n2
          · obtain ⟨p, hp⟩ : ∃ p, os2[j]? = some p := ⟨_, List.getElem?_eq_getElem (by have := H2.out.len; omega)⟩
            obtain ⟨b, o, rfl, hbb, hcc⟩ := H2.out.rd.2.2.2 (by omega)
            have hj60 : j ≤ 60 := by have := HFB.out.1; have := H2.out.len; omega
            obtain ⟨kd, x1, n', A', bn, bc, l, A2', kn', kc', ks'⟩ := p
            have hbwj := HBW.out.trans (HBJ.out.mono HBW.out.size)
            have hc := fun k u (hu : (Opd.cells ⟨kd, x1, n', A', bn, bc, l, A2', kn', kc', ks'⟩)[k]? = some u) => (hbwj.cell (p := ⟨b, o + (j * 5 + k), none⟩) hbb).trans (hcc _ _ (opsv_get os2 j _ hp k u hu))
            have k0 : wr.cell? ⟨b, o + j * 5, none⟩ = some (.int .i64 kd) := hc 0 _ rfl
            have k1 : wr.cell? ⟨b, o + j * 5 + 1, none⟩ = some (.int .i64 x1) := hc 1 _ rfl
            have k2 : wr.cell? ⟨b, o + j * 5 + 2, none⟩ = some (.int .i64 n') := hc 2 _ rfl
            have k3 : wr.cell? ⟨b, o + j * 5 + 3, none⟩ = some (.slice A' bn bc) := hc 3 _ rfl
            have k4 : wr.cell? ⟨b, o + j * 5 + 4, none⟩ = some (.slice A2' kn' kc') := hc 4 _ rfl
            have hlti : (j : Int) < (n2 : Int) := by omega
            have hii : (j : Int) ≤ 60 := by omega
            have HLT := Lib.hid hltj
            obtain ⟨X, hX, hXs, rx, hXb⟩ : ∃ X, X = wr.alloc (.cells #[.int .i64 kd, .int .i64 x1, .int .i64 n', .slice A' bn bc, .slice A2' kn' kc'] 33) ∧ X.heap.size = wr.heap.size + 1 ∧ X.heap[wr.heap.size]? = some (.cells #[.int .i64 kd, .int .i64 x1, .int .i64 n', .slice A' bn bc, .slice A2' kn' kc'] 33 (0, 0)) ∧ Below wr.heap.size wr X := row1 wr _ _
            have HX := Lib.hid hX
            have hxg := (hXb.cell (p := ⟨g, 4, none⟩) hgj).trans hc4j
            have HXG := Lib.hid hxg
            have HXB := Lib.hid (HBJ.out.trans (hXb.mono HBJ.out.size))
            have HXS := Lib.hid hXs
            have HRX := Lib.hid rx
            have HGX := Lib.hid (show g < X.heap.size by omega)
            clear hc hcc hp hltj hbwj hxg hXb hXs rx hc4j hgj hX
            go_wp2_with (first
              | (go_at_call 13; rw [← HX.out]; refine (read_down g x1 1 _ HXG.out).mono ?_; rintro e w5 ⟨rfl, rfl⟩
                 have x1c := cell_of_row X _ 1 _ _ _ HRX.out
                 have x3c := cell_of_row X _ 3 _ _ _ HRX.out
                 simp at x1c x3c)
              | (go_at_call 16; refine (write_down g x1 A' bn bc _ HXG.out).mono ?_; rintro e w6 ⟨rfl, hb6⟩
                 have hg6 := (hb6.cell (p := ⟨g, 4, none⟩) HGX.out).trans HXG.out
                 have HG6 := Lib.hid hg6
                 have HB6 := Lib.hid (HXB.out.trans (hb6.mono HXB.out.size))
                 clear hg6 hb6)
              | (go_at_call 12; refine (flush_down g _ HG6.out).mono ?_; rintro e w7 ⟨rfl, rfl⟩)
              | (go_at_call 17; refine (down_at g true _ HG6.out).mono ?_; rintro e w8 ⟨rfl, rfl⟩)
              | fail)
            go_roundw
            case rel => exact ⟨j + 1, by have := HLT.out; omega, by go_num, HB6.out⟩
            case measure => have := HLT.out; simp [intOf]; omega
          · obtain rfl : j = n2 := by omega
            clear hc4j hgj
            go_wp2_with (first
              | (go_at_call 20; refine (HSAME.out _ HBJ.out).mono ?_; rintro e w5 ⟨rfl, hb5⟩
                 have HB5 := Lib.hid (HBW.out.trans ((HBJ.out.trans (hb5.mono HBJ.out.size)).mono HBW.out.size))
                 clear hb5)
              | (go_at_call 8; refine (dlives _).mono ?_; rintro e w9 ⟨rfl, hb9⟩)
              | fail)
            go_ret
            exact ⟨rfl, HB5.out.trans (hb9.mono HB5.out.size)⟩
      | false =>
        have c4 := hO0.c4
        rw [hdw] at c4
        obtain ⟨hf1, hf2, hf3⟩ := Dv.fused_flush dd hdw
        obtain ⟨dz, hdz⟩ : ∃ dz, dz = (dd.fused 0).flush.1 := ⟨_, rfl⟩
        rw [← hdz] at hf2 hf3
        have HFZ := Lib.hid (And.intro hf1 (And.intro hf2 (And.intro hf3 hdz)))
        have HO0 := Lib.hid hO0
        have HNF := Lib.hid (show ∀ i, (fun i => w.heap.size ≤ i) i → w.heap.size ≤ i from fun i h => h)
        clear hO0 hf1 hf2 hf3 hdz hi60 hdw
        go_wp2_with (first
          | (go_at_call 17; refine (down_at g false _ c4).mono ?_; rintro e wz ⟨rfl, rfl⟩)
          | (go_at_call 18; refine (own_fuse HO0.out 0 ⟨by omega, by omega⟩).mono ?_; rintro e wf ⟨rfl, hOF, hKF⟩
             have HOF := Lib.hid (hOF.mono (N' := fun i => w.heap.size ≤ i) (Nat.le_refl _) (fun i _ h => h.elim id (fun h => Nat.le_trans HB.out.size h)))
             have HBF := Lib.hid (HB.out.trans (hKF.below (B := w.heap.size) HB.out.size (fun i h => h)))
             clear hOF hKF)
          | (go_at_call 12; refine (own_flush HOF.out (by have := hHI.out; omega)).mono ?_
             rw [HFZ.out.1, ← HFZ.out.2.2.2]
             rintro e wz ⟨rfl, hOZ, hKZ⟩
             have HBZ := Lib.hid (HBF.out.trans (hKZ.below (B := w.heap.size) HBF.out.size (fun i h => h)))
             have c4z := hOZ.c4
             rw [HFZ.out.2.1] at c4z
             obtain ⟨bs, bl, v, k, hD, hk, hdo, hfoot⟩ := hOZ
             have HDD := Lib.hid hD
             have HWS := Lib.hid (show dz.ws.length ≤ 100000 by have := hHI.out; omega)
             clear hD hk hdo hfoot hKZ)
          | (go_at_call 19; refine (clone_any HDD.out HWS.out).mono ?_; rintro e wc ⟨b1, b2, v', rfl, hrow, hsm, hown, hbc⟩)
          | fail)
        have c4 := c4z
        have hgz := block_lt_of_cell c4
        have hgc : g < wc.heap.size := Nat.lt_of_lt_of_le hgz hbc.size
        have c4c := (hbc.cell (p := ⟨g, 4, none⟩) hgz).trans c4
        have hDc := HDD.out.below hbc
        have hsmc : wc.heap[b1]? = wc.heap[bs]? := hsm.trans (hbc.block bs HDD.out.safe.lt).symm
        have hbw := HBZ.out.trans (hbc.mono HBZ.out.size)
        have hsame := fun (W : World) (hb : Below wc.heap.size wc W) => same_any (hDc.below hb) HWS.out ((hb.block _ (Array.getElem?_eq_some_iff.1 hrow).1).trans hrow) ((hb.block b1 (by
          obtain ⟨D, ⟨es, clock, o1, _⟩, _⟩ := hDc.safe
          rw [o1] at hsmc
          exact (Array.getElem?_eq_some_iff.1 hsmc).1)).trans (hsmc.trans (hb.block bs hDc.safe.lt).symm)) (hown.kept (below_grown hb none) (by cases v'.ownBlock <;> simp))
        have HSAME := Lib.hid hsame
        have HC4 := Lib.hid c4c
        have HGC := Lib.hid hgc
        have HBW := Lib.hid hbw
        clear hsame c4c hgc hbw hDc hsmc hrow hsm hown hbc hgz c4
        go_loopw [54] (fun ir wq => ∃ (j : Nat), j ≤ n2 ∧ ir = .int .i64 (j : Int) ∧ Below wc.heap.size wc wq) (fun ir _ => n2 - (intOf ir).toNat)
        case atStart => exact ⟨0, Nat.zero_le _, rfl, Below.refl _ _⟩
        case round =>
          obtain ⟨j, hj, rfl, hbj⟩ := hrel
          have HBJ := Lib.hid hbj
          have hc4j := (hbj.cell (p := ⟨g, 4, none⟩) HGC.out).trans HC4.out
          have hgj : g < wr.heap.size := Nat.lt_of_lt_of_le HGC.out hbj.size
          clear hbj
          by_cases hltj : j < n2
          · obtain ⟨p, hp⟩ : ∃ p, os2[j]? = some p := ⟨_, List.getElem?_eq_getElem (by have := H2.out.len; omega)⟩
            obtain ⟨b, o, rfl, hbb, hcc⟩ := H2.out.rd.2.2.2 (by omega)
            have hj60 : j ≤ 60 := by have := HFB.out.1; have := H2.out.len; omega
            obtain ⟨kd, x1, n', A', bn, bc, l, A2', kn', kc', ks'⟩ := p
            have hbwj := HBW.out.trans (HBJ.out.mono HBW.out.size)
            have hc := fun k u (hu : (Opd.cells ⟨kd, x1, n', A', bn, bc, l, A2', kn', kc', ks'⟩)[k]? = some u) => (hbwj.cell (p := ⟨b, o + (j * 5 + k), none⟩) hbb).trans (hcc _ _ (opsv_get os2 j _ hp k u hu))
            have k0 : wr.cell? ⟨b, o + j * 5, none⟩ = some (.int .i64 kd) := hc 0 _ rfl
            have k1 : wr.cell? ⟨b, o + j * 5 + 1, none⟩ = some (.int .i64 x1) := hc 1 _ rfl
            have k2 : wr.cell? ⟨b, o + j * 5 + 2, none⟩ = some (.int .i64 n') := hc 2 _ rfl
            have k3 : wr.cell? ⟨b, o + j * 5 + 3, none⟩ = some (.slice A' bn bc) := hc 3 _ rfl
            have k4 : wr.cell? ⟨b, o + j * 5 + 4, none⟩ = some (.slice A2' kn' kc') := hc 4 _ rfl
            have hlti : (j : Int) < (n2 : Int) := by omega
            have hii : (j : Int) ≤ 60 := by omega
            have HLT := Lib.hid hltj
            obtain ⟨X, hX, hXs, rx, hXb⟩ : ∃ X, X = wr.alloc (.cells #[.int .i64 kd, .int .i64 x1, .int .i64 n', .slice A' bn bc, .slice A2' kn' kc'] 33) ∧ X.heap.size = wr.heap.size + 1 ∧ X.heap[wr.heap.size]? = some (.cells #[.int .i64 kd, .int .i64 x1, .int .i64 n', .slice A' bn bc, .slice A2' kn' kc'] 33 (0, 0)) ∧ Below wr.heap.size wr X := row1 wr _ _
            have HX := Lib.hid hX
            have hxg := (hXb.cell (p := ⟨g, 4, none⟩) hgj).trans hc4j
            have HXG := Lib.hid hxg
            have HXB := Lib.hid (HBJ.out.trans (hXb.mono HBJ.out.size))
            have HXS := Lib.hid hXs
            have HRX := Lib.hid rx
            have HGX := Lib.hid (show g < X.heap.size by omega)
            clear hc hcc hp hltj hbwj hxg hXb hXs rx hc4j hgj hX
            go_wp2_with (first
              | (go_at_call 13; rw [← HX.out]; refine (read_down g x1 1 _ HXG.out).mono ?_; rintro e w5 ⟨rfl, rfl⟩
                 have x1c := cell_of_row X _ 1 _ _ _ HRX.out
                 have x3c := cell_of_row X _ 3 _ _ _ HRX.out
                 simp at x1c x3c)
              | (go_at_call 16; refine (write_down g x1 A' bn bc _ HXG.out).mono ?_; rintro e w6 ⟨rfl, hb6⟩
                 have hg6 := (hb6.cell (p := ⟨g, 4, none⟩) HGX.out).trans HXG.out
                 have HG6 := Lib.hid hg6
                 have HB6 := Lib.hid (HXB.out.trans (hb6.mono HXB.out.size))
                 clear hg6 hb6)
              | (go_at_call 12; refine (flush_down g _ HG6.out).mono ?_; rintro e w7 ⟨rfl, rfl⟩)
              | (go_at_call 17; refine (down_at g true _ HG6.out).mono ?_; rintro e w8 ⟨rfl, rfl⟩)
              | fail)
            go_roundw
            case rel => exact ⟨j + 1, by have := HLT.out; omega, by go_num, HB6.out⟩
            case measure => have := HLT.out; simp [intOf]; omega
          · obtain rfl : j = n2 := by omega
            clear hc4j hgj
            go_wp2_with (first
              | (go_at_call 20; refine (HSAME.out _ HBJ.out).mono ?_; rintro e w5 ⟨rfl, hb5⟩
                 have HB5 := Lib.hid (HBW.out.trans ((HBJ.out.trans (hb5.mono HBJ.out.size)).mono HBW.out.size))
                 clear hb5)
              | (go_at_call 8; refine (dlives _).mono ?_; rintro e w9 ⟨rfl, hb9⟩)
              | fail)
            go_ret
            exact ⟨rfl, HB5.out.trans (hb9.mono HB5.out.size)⟩

namespace deviceDown
open Go.ChangeShapes Go.WideShapes Go.ChangeAt
set_option maxRecDepth 100000 in
theorem lifted (os : Os) (started : os.Started) (H : Type) (enc : TypeId × Value → H) :
    ReturnsInHanded {} Try.checked os 5 .any (Rows.deviceDownSpec.pre6 enc Try.prog Try.f5 Rows.deviceDownRow.domain false) (Rows.deviceDownSpec.post enc Try.prog Try.f5 false true false false) := by
  refine returnsInHanded_of_change (C := Try.checked) own started (by kernel_rfl) Try.func5
    (ChangeSpec.witness6 (enc := enc) (C := Try.checked) false ⟨#[], #[.slice none 0 0, .slice none 0 0], []⟩ 8 (by kernel_rfl) (by kernel_rfl) (by kernel_rfl) (by kernel_rfl)) ?_
  intro W base args ds gs before hval0 hW _ _
  have hval : ∀ (j : Nat) t v, Try.f5.params[j]? = some t → args[j]? = some v → Value.okWide Try.prog W .any base t v := hval0
  have hW' := hW
  obtain ⟨p, q, hA0, hV, rfl, hfz, hnd⟩ := hW
  have hA : DataW.TrodAll enc Try.prog W 0 (fun _ => true) true Try.f5.params.toList args.toList ds p := hA0
  rw [Try.params5] at hA hval
  obtain ⟨v0, vs0, d0, ds0, p0, q0, hargs, rfl, rfl, h0, r0⟩ := trodAll_cons hA
  obtain ⟨v1, vs1, d1, ds1, p1, q1, rfl, rfl, rfl, h1, r1⟩ := trodAll_cons r0
  obtain ⟨rfl, rfl, rfl⟩ := trodAll_nil r1
  obtain rfl : args = #[v0, v1] := by cases args; simp_all
  obtain ⟨rfl, rfl⟩ := trodVars_none hV
  have k0 := h0
  have lt0 : ∀ x ∈ p0, x.block < W.heap.size := by obtain ⟨m, hm⟩ := k0; exact DataW.trod_lt m _ _ _ hm
  obtain ⟨a0, n0, c0, l0, rfl, w0⟩ := dec_ops Try.underlying22 Try.underlying33 (by kernel_rfl) (by kernel_rfl) Try.underlying3 Try.underlying3 Try.underlying3 Try.underlying31 Try.underlying5 (by kernel_rfl) Try.underlying23 Try.underlying3 (by kernel_rfl) (hval 0 22 v0 rfl rfl) h0
  have k1 := h1
  have lt1 : ∀ x ∈ p1, x.block < W.heap.size := by obtain ⟨m, hm⟩ := k1; exact DataW.trod_lt m _ _ _ hm
  obtain ⟨a1, n1, c1, l1, rfl, w1⟩ := dec_ops Try.underlying22 Try.underlying33 (by kernel_rfl) (by kernel_rfl) Try.underlying3 Try.underlying3 Try.underlying3 Try.underlying31 Try.underlying5 (by kernel_rfl) Try.underlying23 Try.underlying3 (by kernel_rfl) (hval 1 22 v1 rfl rfl) h1
  clear hA0 hval0
  refine (deviceDown_walk w0 w1).mono fun e W' ⟨he, bel⟩ => ?_
  subst he
  exact ⟨_, rfl, _, _, _, [], _, [], hW', trodAll_mk1 (shut_bool Try.underlying4 _), (trodAll_cons_mk (Below.trod laidOut (by kernel_rfl) (of_decide_eq_true (by kernel_rfl)) k0 bel lt0) (trodAll_cons_mk (Below.trod laidOut (by kernel_rfl) (of_decide_eq_true (by kernel_rfl)) k1 bel lt1) trodAll_mk0)), rfl, bel.frame _, fun h => by cases h⟩

theorem over : Rows.deviceDownRow.holds Try.pinned (OpenSpec.ofChange Rows.deviceDownSpec) :=
  OpenClaim.holds_of_wide 5 Try.f5 rfl rfl rfl rfl rfl rfl rfl ⟨rfl, rfl, rfl, rfl, rfl⟩ rfl rfl rfl rfl rfl (by kernel_rfl) Try.func5 (by kernel_rfl)
    (of_decide_eq_true (by kernel_rfl)) (by unfold Func.isWrapper; first | (rw [if_pos (by decide +kernel)]; kernel_rfl) | (rw [if_neg (by decide +kernel)]; exact ⟨rfl, rfl⟩))
    (fun os started H enc _ => lifted os started H enc)
/-- The given statement. -/
theorem proved : Rows.DeviceDownSaid := over
end deviceDown

end Go.Proofs.Ytdmcbojncgdccaa

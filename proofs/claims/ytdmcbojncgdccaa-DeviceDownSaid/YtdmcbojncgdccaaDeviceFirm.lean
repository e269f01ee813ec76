/- DeviceFirm: a sector that was flushed, and was not written since, is what it was. -/
import Derived.Test.YtdmcbojncgdccaaFirm
import Derived.Test.YtdmcbojncgdccaaRowkitd
import Derived.Test.YtdmcbojncgdccaaDevl
namespace Go.Proofs.Ytdmcbojncgdccaa
open Go.RowKit

theorem Opd.Reads.below {w w' : World} {o : Opd} (h : o.Reads w) (hb : Below w.heap.size w w') : o.Reads w' := ⟨(h.1.below hb).more hb.size, (h.2.1.below hb).more hb.size, h.2.2⟩
theorem Ops.below {w w' : World} {A : Option Addr} {n c : Nat} {os : List Opd} (h : Ops w A n c os) (hb : Below w.heap.size w w') : Ops w' A n c os := ⟨(h.rd.below hb).more hb.size, h.len, fun o ho => (h.reads o ho).below hb⟩
theorem Dev.low {w : World} {B B' g bs bl k : Nat} {v : Value} {d : Dv} (h : Dev w B g bs bl v k d) (hB : B' ≤ B) : Dev w B' g bs bl v k d := ⟨h.row, h.safe, h.last, ownsRow_low h.waits hB, h.gs, h.gl, h.sl, h.vg, Nat.le_trans hB h.hg, Nat.le_trans hB h.hs, Nat.le_trans hB h.hl, h.ok⟩
theorem Rdev.low {w : World} {B B' q : Nat} {vs vl : Value} {r : Rv} (h : Rdev w B q vs vl r) (hB : B' ≤ B) : Rdev w B' q vs vl r := ⟨h.row, ownsRow_low h.safe hB, ownsRow_low h.loose hB, h.qs, h.ql, h.sl, Nat.le_trans hB h.hq, h.ok⟩
/-- The two devices of a law, as they are made. -/
theorem pair_new {w w3 w4 : World} {B g : Nat} {F3 : Nat → Prop} (hD : Dvc w3 B g F3 (Dv.new 20)) (hB : w.heap.size ≤ B) (hz : w.heap.size ≤ w3.heap.size) (hR : Rdev w4 w3.heap.size w3.heap.size (.slice none 0 0) (.slice none 0 0) (Rv.new 20)) (hb : Below w3.heap.size w3 w4) : Pair w4 w.heap.size g w3.heap.size (fun i => w.heap.size ≤ i) 0 (Dv.new 20) := by
  obtain ⟨bs, bl, v, k, hd, hk, _⟩ := hD
  refine ⟨bs, bl, v, k, _, _, Rv.new 20, (hd.below hb).low hB, hk, Nat.le_refl _, hR.low hz, Nat.le_refl _, Nat.le_refl _, fun i hi hf => ?_, fun i hi => ?_⟩
  · have := (hd.foot_lt hi).2
    have := (hR.foot_lt hf).1
    omega
  · rcases hi with hi | hi
    · have := (hd.foot_lt hi).1
      omega
    · have := (hR.foot_lt hi).1
      omega
/-- What is read of blocks below w's end is no device's. -/
theorem arg_far {w : World} {o : Opd} (ho : o.Reads w) {F : Nat → Prop} (hF : ∀ i, F i → w.heap.size ≤ i) : (0 < o.bn → ∀ b i, o.A = some ⟨b, i, none⟩ → ¬ F b) ∧ (0 < o.kn → ∀ b i, o.A2 = some ⟨b, i, none⟩ → ¬ F b) := by
  refine ⟨fun h0 b i e hf => ?_, fun h0 b i e hf => ?_⟩
  · obtain ⟨b', o', e', hb, _⟩ := ho.1.2.2.2 h0
    rw [e] at e'
    cases e'
    have := hF b hf
    omega
  · obtain ⟨b', o', e', hb, _⟩ := ho.2.1.2.2.2 h0
    rw [e] at e'
    cases e'
    have := hF b hf
    omega
theorem Pair.tight {w : World} {B g q M : Nat} {F : Nat → Prop} {d : Dv} (h : Pair w B g q F M d) : Pair w B g q (fun i => F i ∧ i < w.heap.size) M d := by
  obtain ⟨bs, bl, v, k, vs, vl, r, h1, h2, h3, h4, h5, h6, h7, h8⟩ := h
  exact ⟨bs, bl, v, k, vs, vl, r, h1, h2, h3, h4, h5, h6, h7, fun i hi => ⟨h8 i hi, by
    rcases hi with hi | hi
    · exact (h1.foot_lt hi).2
    · exact (h4.foot_lt hi).2⟩⟩
/-- A call of a row, run on both, in a world further on. -/
theorem do_next {w wr : World} {g q M : Nat} {F : Nat → Prop} {d : Dv} (hF : ∀ i, F i → w.heap.size ≤ i) (hP : Pair wr w.heap.size g q F M d) (hM : M ≤ 100000) (hb : Below w.heap.size w wr) (o : Opd) (ho : o.Reads w) (h1 : o.bn ≤ 1000) (h2 : o.kn ≤ 200) :
    Calls Try.prog 11 #[.pointer (some ⟨g, 0, none⟩), .pointer (some ⟨q, 0, none⟩), .agg o.cells] wr fun e w' => (∃ b, e = .returned (.bool b)) ∧ Pair w' w.heap.size g q (fun i => F i ∨ wr.heap.size ≤ i) (M + 16) (d.op o) ∧ Keeps F wr w' :=
  do_any hP hM o (ho.below hb) h1 (by omega) (arg_far ho hF).1 (arg_far ho hF).2


set_option maxHeartbeats 8000000 in
set_option maxRecDepth 8000 in
theorem firm_at {w : World} {A1 A2 A3 : Option Addr} {n1 c1 n2 c2 kn kc : Nat} {os1 os2 : List Opd} (h1 : Ops w A1 n1 c1 os1) (h2 : Ops w A2 n2 c2 os2) (x : Int) (hx0 : 0 ≤ x) (hx : x < 256) (ks : List Int) (h3 : Rd w w.heap.size 1 A3 kn kc (ks.map (Value.int .i64))) :
    Calls Try.prog 3 #[.slice A1 n1 c1, .slice A2 n2 c2, .int .u8 x, .slice A3 kn kc] w fun e w' => e = .returned (.bool true) ∧ Below w.heap.size w w' := by
  have hn1 : (n1 : Int) ≤ 9223372036854775807 := by have a := h1.rd.1; have b := h1.rd.2.1; unfold maxLen at b; omega
  have hn2 : (n2 : Int) ≤ 9223372036854775807 := by have a := h2.rd.1; have b := h2.rd.2.1; unfold maxLen at b; omega
  have hkn : (kn : Int) ≤ 9223372036854775807 := by have a := h3.1; have b := h3.2.1; unfold maxLen at b; omega
  have H1 := Lib.hid h1
  have H2 := Lib.hid h2
  have H3 := Lib.hid h3
  clear h1 h2 h3
  go_enter Try.func3, Try.ntmps3
  go_wp2_with (first
    | (go_at_call 7; refine (light_any (H2.out.below HB1.out)).mono ?_; rintro e w2 ⟨b2, rfl, hf2, hb2⟩
       have HF2 := Lib.hid hf2
       have HB2 := Lib.hid (HB1.out.trans (hb2.mono HB1.out.size))
       clear hf2 hb2
       cases b2)
    | (go_at_call 7; refine (light_any H1.out).mono ?_; rintro e w1 ⟨b1, rfl, hf1, hb1⟩
       have HF1 := Lib.hid hf1
       have HB1 := Lib.hid hb1
       clear hf1 hb1
       cases b1)
    | (go_at_call 8; refine (dlives _).mono ?_; rintro e w9 ⟨rfl, hb9⟩)
    | (go_at_call 9; refine (new_good 20 _ (by omega) (by omega)).mono ?_; rintro e w3 ⟨F3, g, rfl, hD3, hb3⟩
       have HD3 := Lib.hid hD3
       have HZ3 := Lib.hid HB2.out.size
       have HB3 := Lib.hid (HB2.out.trans (hb3.mono HB2.out.size))
       clear hD3 hb3)
    | (go_at_call 10; refine (rnew_good 20 _ (by omega) (by omega)).mono ?_; rintro e w4 ⟨rfl, hR4, hb4⟩
       have HP4 := Lib.hid (pair_new HD3.out HZ3.out HB3.out.size hR4 hb4)
       have HB4 := Lib.hid (HB3.out.trans (hb4.mono HB3.out.size))
       clear hR4 hb4)
    | fail)
  · go_ret
    exact ⟨rfl, HB1.out.trans (hb9.mono HB1.out.size)⟩
  · go_ret
    exact ⟨rfl, HB2.out.trans (hb9.mono HB2.out.size)⟩
  · go_ret
    exact ⟨rfl, HB2.out.trans (hb9.mono HB2.out.size)⟩
  have hk2 : kn ≤ 200 := by have : (kn : Int) ≤ 200 := by assumption
                            omega
  obtain ⟨q, hq⟩ : ∃ q, q = w3.heap.size := ⟨_, rfl⟩
  have hP4 := HP4.out
  have hB3 := HB3.out.size
  rw [← hq] at hP4 hB3
  rw [← hq]
  have HP := Lib.hid hP4
  have HQ := Lib.hid hB3
  have HFA := Lib.hid (HF1.out trivial)
  have HFB := Lib.hid (HF2.out trivial)
  clear hP4 hB3 hq HP4 HD3 HB3 HZ3 HF1 HF2
  go_loopw [44] (fun ir wr => ∃ (i : Nat) (dd : Dv), i ≤ n1 ∧ ir = .int .i64 (i : Int) ∧ Pair wr w.heap.size g q (fun i => w.heap.size ≤ i) (16 * i) dd ∧ dd.n = 20 ∧ Below w.heap.size w wr) (fun ir _ => n1 - (intOf ir).toNat)
  case atStart => exact ⟨0, Dv.new 20, Nat.zero_le _, rfl, HP.out, rfl, HB4.out⟩
  case round =>
    obtain ⟨i, dd, hi, rfl, hP, hdn, hb⟩ := hrel
    have HB := Lib.hid hb
    have HPP := Lib.hid hP
    have HDN := Lib.hid hdn
    clear hb hP hdn
    by_cases hlt : i < n1
    · obtain ⟨p, hp⟩ : ∃ p, os1[i]? = some p := ⟨_, List.getElem?_eq_getElem (by have := H1.out.len; omega)⟩
      have hmem := List.mem_of_getElem? hp
      obtain ⟨hf1, hf2⟩ := HFA.out.2 p hmem
      obtain ⟨b, o, rfl, hbb, hcc⟩ := H1.out.rd.2.2.2 (by omega)
      have hi60 : i ≤ 60 := by have := HFA.out.1; have := H1.out.len; omega
      have hdo := fun (cs : Obj) => do_next (w := w) (wr := wr.alloc cs) (q := q) (F := fun i => w.heap.size ≤ i) (fun i hi => hi) (HPP.out.keeps (F := fun i => w.heap.size ≤ i) (G := fun _ => False) ((Keeps.refl _ _).alloc cs) (fun i hi => hi.elim)) (by omega) (HB.out.alloc HB.out.size cs) p (H1.out.reads p hmem) hf1 hf2
      have hop := Dv.op_n dd p
      obtain ⟨kd, x1, n', A', bn, bc, l, A2', kn', kc', ks'⟩ := p
      have hc := fun j u (hu : (Opd.cells ⟨kd, x1, n', A', bn, bc, l, A2', kn', kc', ks'⟩)[j]? = some u) => (HB.out.cell (p := ⟨b, o + (i * 5 + j), none⟩) hbb).trans (hcc _ _ (opsv_get os1 i _ hp j u hu))
      have k0 : wr.cell? ⟨b, o + i * 5, none⟩ = some (.int .i64 kd) := hc 0 _ rfl
      have k1 : wr.cell? ⟨b, o + i * 5 + 1, none⟩ = some (.int .i64 x1) := hc 1 _ rfl
      have k2 : wr.cell? ⟨b, o + i * 5 + 2, none⟩ = some (.int .i64 n') := hc 2 _ rfl
      have k3 : wr.cell? ⟨b, o + i * 5 + 3, none⟩ = some (.slice A' bn bc) := hc 3 _ rfl
      have k4 : wr.cell? ⟨b, o + i * 5 + 4, none⟩ = some (.slice A2' kn' kc') := hc 4 _ rfl
      have hlti : (i : Int) < (n1 : Int) := by omega
      have hii : (i : Int) ≤ 60 := by omega
      have HDO := Lib.hid hdo
      have HOP := Lib.hid hop
      clear hc hcc hp hmem hdo hop hf1 hf2
      go_wp2_with (first
        | (go_at_call 11; refine (HDO.out _).mono ?_; rintro e w5 ⟨⟨b5, rfl⟩, hP5, hK5⟩)
        | fail)
      have hb5 := (HB.out.alloc HB.out.size _).trans (hK5.below (B := w.heap.size) (Nat.le_trans HB.out.size (by simp)) (fun i hi => hi))
      go_roundw
      case rel => exact ⟨i + 1, _, by omega, by go_num, hP5.mono (by omega) (fun j hj => hj.elim id (fun h => Nat.le_trans HB.out.size (Nat.le_trans (by simp) h))), HOP.out.trans HDN.out, hb5⟩
      case measure => simp [intOf]; omega
    · obtain rfl : i = n1 := by omega
      have hi60 : i ≤ 60 := by have := HFA.out.1; have := H1.out.len; omega
      obtain ⟨bs, bl, v, k, vs, vl, r, hD, hk, hdone, hR, hs, hrd, hdj, hF⟩ := HPP.out
      have hfl := flush_all hD hk hdone (by omega)
      have hwb : ∀ j, Foot g bs bl v j → w.heap.size ≤ j := fun j hj => hF j (.inl hj)
      by_cases h0 : dd.flush.2 = 0
      · obtain ⟨hcalm, hdown, hn20⟩ := flush_calm dd (x % 20) h0
        rw [h0] at hfl
        rw [HDN.out] at hn20
        obtain ⟨d1, hd1⟩ : ∃ d1, d1 = dd.flush.1 := ⟨_, rfl⟩
        rw [← hd1] at hfl hcalm hdown hn20
        obtain ⟨S0, hS0⟩ : ∃ S0, S0 = d1.S (x % 20) := ⟨_, rfl⟩
        rw [← hS0] at hcalm
        have hpair := fun (w5 : World) (hD5 : Dleft wr w.heap.size g bs bl v (16 * i + 16) d1 w5) => pair_both hD hR hdj hD5 (rdl_same (M := 16 * i + 16) (hD5.rdev hR hdj) (by omega) (by omega))
        have hseen := hcalm.seen
        have HFL := Lib.hid hfl
        have HPA := Lib.hid hpair
        have HCM := Lib.hid hcalm
        have HDW := Lib.hid hdown
        have HN20 := Lib.hid hn20
        have HSE := Lib.hid hseen
        have HF := Lib.hid hF
        have hm0 : 0 ≤ x % 20 := by omega
        have hm1 : x % 20 < 20 := by omega
        clear hfl hpair hcalm hdown hn20 hseen hF hD hR hdj hk hdone hs hrd hd1 hS0 hwb h0
        go_wp2_with (first
          | (go_at_call 12; refine HFL.out.mono ?_; rintro e w5 ⟨rfl, hD5⟩
             obtain ⟨hP5, hK5⟩ := HPA.out w5 hD5
             obtain ⟨bs', bl', v', k', hD1, _, _, _, _⟩ := hD5
             have hb5 : Below w.heap.size w w5 := HB.out.trans (hK5.below HB.out.size HF.out)
             have hrg := read_good hD1 HDW.out (x % 20) 1 (by omega) (by rw [HN20.out]; omega)
             have HD1 := Lib.hid hD1
             have HP5 := Lib.hid hP5
             have HB5 := Lib.hid hb5
             have HRG := Lib.hid hrg
             clear hD1 hP5 hK5 hb5 hrg)
          | (go_at_call 13; refine HRG.out.mono ?_; rintro e w6 ⟨v6, rfl, hown6, hb6⟩
             obtain ⟨A6, c6, rfl, hr6⟩ := rd_owns hown6
             have hlt6 := hown6.lt
             have HR6 := Lib.hid hr6
             have HLT6 := Lib.hid hlt6
             have HB6 := Lib.hid hb6
             clear hr6 hown6 hlt6 hb6)
          | fail)
        have hby : d1.bytes (x % 20) 1 = S0 := by
          show [] ++ d1.seen (x % 20 + ((0 : Nat) : Int)) = S0
          rw [List.nil_append, show x % 20 + ((0 : Nat) : Int) = x % 20 from by omega]
          exact HSE.out
        have hr6 := HR6.out
        rw [hby] at hr6
        obtain ⟨bw, o6, rfl, hbw, _⟩ := hr6.2.2.2 (by omega)
        have hbw5 := (HLT6.out bw rfl).1
        have hb06 : Below w.heap.size w w6 := HB5.out.trans (HB6.out.mono HB5.out.size)
        have hP6 : Pair w6 w.heap.size g q (fun b => w.heap.size ≤ b ∧ b ≠ bw) (16 * (i + 1)) d1 := (HP5.out.tight.keeps (F := _) (G := fun _ => False) (Keeps.of_below HB6.out) (fun i hi => hi.elim)).mono (by omega) (fun b hb => ⟨by
          rcases hb.1 with h | h
          · exact HF.out b h
          · exact Nat.le_trans HB.out.size h, by have := hb.2; omega⟩)
        have HP6 := Lib.hid hP6
        have HB06 := Lib.hid hb06
        have HR6' := Lib.hid hr6
        have HBW := Lib.hid hbw
        clear hby hr6 hbw hbw5 hb06 hP6 HR6 HLT6
        go_loopw [68] (fun ir wq => ∃ (j : Nat) (dj : Dv), j ≤ n2 ∧ ir = .int .i64 (j : Int) ∧ Pair wq w.heap.size g q (fun b => w.heap.size ≤ b ∧ b ≠ bw) (16 * (i + 1 + j)) dj ∧ dj.n = 20 ∧ Calm dj (x % 20) S0 ∧ Below w.heap.size w wq ∧ bw < wq.heap.size ∧ Rd wq wq.heap.size 1 (some ⟨bw, o6, none⟩) 64 c6 (u8s S0)) (fun ir _ => n2 - (intOf ir).toNat)
        case atStart => exact ⟨0, d1, Nat.zero_le _, rfl, HP6.out, HN20.out, HCM.out, HB06.out, HBW.out, HR6'.out⟩
        case round =>
          obtain ⟨j, dj, hj, rfl, hPj, hdnj, hcj, hbj, hbwj, hrj⟩ := hrel
          have HB7 := Lib.hid hbj
          have HP7 := Lib.hid hPj
          have HDN7 := Lib.hid hdnj
          have HCM7 := Lib.hid hcj
          have HBWL := Lib.hid hbwj
          have HRW := Lib.hid hrj
          clear hbj hPj hdnj hcj hbwj hrj
          by_cases hltj : j < n2
          · obtain ⟨p, hp⟩ : ∃ p, os2[j]? = some p := ⟨_, List.getElem?_eq_getElem (by have := H2.out.len; omega)⟩
            have hmem := List.mem_of_getElem? hp
            obtain ⟨hf1, hf2⟩ := HFB.out.2 p hmem
            obtain ⟨b, o, rfl, hbb, hcc⟩ := H2.out.rd.2.2.2 (by omega)
            have hj60 : j ≤ 60 := by have := HFB.out.1; have := H2.out.len; omega
            have hdo := fun (W : World) (hbW : Below wr.heap.size wr W) => do_next (w := w) (wr := W) (q := q) (F := fun b => w.heap.size ≤ b ∧ b ≠ bw) (fun i hi => hi.1) (HP7.out.keeps (G := fun _ => False) (Keeps.of_below hbW) (fun i hi => hi.elim)) (by omega) (HB7.out.trans (hbW.mono HB7.out.size)) p (H2.out.reads p hmem) hf1 hf2
            have hop := Dv.op_n dj p
            have hlb := (H2.out.reads p hmem).1.len
            rw [u8s_len] at hlb
            obtain ⟨kd, x1, n', A', bn, bc, l, A2', kn', kc', ks'⟩ := p
            have hlb' : l.length = bn := hlb
            have hc := fun k u (hu : (Opd.cells ⟨kd, x1, n', A', bn, bc, l, A2', kn', kc', ks'⟩)[k]? = some u) => (HB7.out.cell (p := ⟨b, o + (j * 5 + k), none⟩) hbb).trans (hcc _ _ (opsv_get os2 j _ hp k u hu))
            have k0 : wr.cell? ⟨b, o + j * 5, none⟩ = some (.int .i64 kd) := hc 0 _ rfl
            have k1 : wr.cell? ⟨b, o + j * 5 + 1, none⟩ = some (.int .i64 x1) := hc 1 _ rfl
            have k2 : wr.cell? ⟨b, o + j * 5 + 2, none⟩ = some (.int .i64 n') := hc 2 _ rfl
            have k3 : wr.cell? ⟨b, o + j * 5 + 3, none⟩ = some (.slice A' bn bc) := hc 3 _ rfl
            have k4 : wr.cell? ⟨b, o + j * 5 + 4, none⟩ = some (.slice A2' kn' kc') := hc 4 _ rfl
            have hlti : (j : Int) < (n2 : Int) := by omega
            have hii : (j : Int) ≤ 60 := by omega
            have hnd := fun W => need_any (bn : Int) W (by omega) (by have : bn ≤ 1000 := hf1; omega)
            obtain ⟨nd, hndv⟩ : ∃ nd, nd = ((bn : Int) + 63) / 64 := ⟨_, rfl⟩
            rw [← hndv] at hnd
            obtain ⟨W1, hW1⟩ : ∃ W1, W1 = wr.alloc (.cells #[.int .i64 kd, .int .i64 x1, .int .i64 n', .slice A' bn bc, .slice A2' kn' kc'] 33) := ⟨_, rfl⟩
            have hr18 := heap_alloc_new wr (.cells #[.int .i64 kd, .int .i64 x1, .int .i64 n', .slice A' bn bc, .slice A2' kn' kc'] 33)
            rw [← hW1] at hr18
            have hb01 : Below wr.heap.size wr W1 := by rw [hW1]; exact (Below.refl _ _).alloc (Nat.le_refl _) _
            have s0 : W1.cell? ⟨wr.heap.size, 0, none⟩ = some (.int .i64 kd) := cell_of_row W1 _ 0 _ _ _ hr18
            have s1 : W1.cell? ⟨wr.heap.size, 1, none⟩ = some (.int .i64 x1) := cell_of_row W1 _ 1 _ _ _ hr18
            have s2 : W1.cell? ⟨wr.heap.size, 2, none⟩ = some (.int .i64 n') := cell_of_row W1 _ 2 _ _ _ hr18
            have s3 : W1.cell? ⟨wr.heap.size, 3, none⟩ = some (.slice A' bn bc) := cell_of_row W1 _ 3 _ _ _ hr18
            have s4 : W1.cell? ⟨wr.heap.size, 4, none⟩ = some (.slice A2' kn' kc') := cell_of_row W1 _ 4 _ _ _ hr18
            have HDO := Lib.hid hdo
            have HOP := Lib.hid hop
            have HND := Lib.hid hnd
            have HB01 := Lib.hid hb01
            have HLB := Lib.hid hlb'
            have HNDV := Lib.hid hndv
            have HW1 := Lib.hid hW1
            clear hc hcc hp hmem hdo hop hf1 hf2 hnd hr18 hb01 hlb hlb' hndv hW1
            by_cases g1 : kd = 0
            · by_cases g2 : x1 ≤ x % 20
              · have hwr : wrap64 (x % 20 - max x1 0) = x % 20 - max x1 0 := by unfold wrap64; omega
                by_cases g3 : x % 20 - max x1 0 < nd
                · have e2 : decide (x1 ≤ x % 20) = true := by simpa using g2
                  have e3 : decide (x % 20 - max x1 0 < nd) = true := by simpa using g3
                  have e1 : ((kd == 0) : Bool) = true := by simpa using g1
                  have e4 : ¬ nd ≤ x % 20 - max x1 0 := by omega
                  have e5 := g3
                  clear HSE g1 g2 g3
                  go_wp2
                  rw [← HW1.out]
                  go_quiet ((go_at_call 14; refine (HND.out _).mono ?_; rintro e w1 ⟨rfl, rfl⟩; exact ⟨rfl, _, rfl⟩))
                  have hbq : Below W1.heap.size W1 (W1.drewN nq) := ⟨rfl, rfl, rfl, Nat.le_refl _, fun _ _ => rfl⟩
                  have hb1q := HB01.out.trans (hbq.mono HB01.out.size)
                  have HBQ := Lib.hid hb1q
                  clear hbq hb1q
                  generalize W1.drewN nq = W2 at *
                  go_wp2_with (first
                    | (go_at_call 8; refine (dlives _).mono ?_; rintro e w9 ⟨rfl, hb9⟩)
                    | fail)
                  go_ret
                  have hb02 : Below w.heap.size w W2 := HB7.out.trans (HBQ.out.mono HB7.out.size)
                  exact ⟨rfl, hb02.trans (hb9.mono hb02.size)⟩
                · have e2 : decide (x1 ≤ x % 20) = true := by simpa using g2
                  have e3 : decide (x % 20 - max x1 0 < nd) = false := by simpa using g3
                  have e1 : ((kd == 0) : Bool) = true := by simpa using g1
                  have HSP := Lib.hid (show Spares ⟨kd, x1, n', A', bn, bc, l, A2', kn', kc', ks'⟩ (x % 20) from fun hh => g3 (by have h3 := hh.2.2; dsimp only at h3; rw [HNDV.out, ← HLB.out]; exact h3))
                  have e4 : nd ≤ x % 20 - max x1 0 := by omega
                  have e5 := g3
                  clear g1 g2 g3
                  go_wp2
                  rw [← HW1.out]
                  go_quiet ((go_at_call 14; refine (HND.out _).mono ?_; rintro e w1 ⟨rfl, rfl⟩; exact ⟨rfl, _, rfl⟩))
                  have hbq : Below W1.heap.size W1 (W1.drewN nq) := ⟨rfl, rfl, rfl, Nat.le_refl _, fun _ _ => rfl⟩
                  have t0 := (hbq.cell (p := ⟨wr.heap.size, 0, none⟩) (block_lt_of_cell s0)).trans s0
                  have t1 := (hbq.cell (p := ⟨wr.heap.size, 1, none⟩) (block_lt_of_cell s1)).trans s1
                  have t2 := (hbq.cell (p := ⟨wr.heap.size, 2, none⟩) (block_lt_of_cell s2)).trans s2
                  have t3 := (hbq.cell (p := ⟨wr.heap.size, 3, none⟩) (block_lt_of_cell s3)).trans s3
                  have t4 := (hbq.cell (p := ⟨wr.heap.size, 4, none⟩) (block_lt_of_cell s4)).trans s4
                  have hb1q := HB01.out.trans (hbq.mono HB01.out.size)
                  have HBQ := Lib.hid hb1q
                  clear hbq hb1q
                  generalize W1.drewN nq = W2 at *
                  go_wp2_with (first
                    | (go_at_call 11; refine (HDO.out _ HBQ.out).mono ?_; rintro e w8 ⟨⟨b8, rfl⟩, hP8, hK8⟩)
                    | fail)
                  have hb02 : Below w.heap.size w W2 := HB7.out.trans (HBQ.out.mono HB7.out.size)
                  have hb8 : Below w.heap.size w w8 := hb02.trans (hK8.below (B := w.heap.size) hb02.size (fun i hi => hi.1))
                  have hrd8 : Rd w8 w8.heap.size 1 (some ⟨bw, o6, none⟩) 64 c6 (u8s S0) := ((HRW.out.below HBQ.out).stay' (fun b o e hb => hK8.block b (Nat.lt_of_lt_of_le hb HBQ.out.size) (fun hf => hf.2 (by cases e; rfl)))).more (Nat.le_trans HBQ.out.size hK8.size)
                  have hbwq := HBWL.out
                  go_roundw
                  case rel => exact ⟨j + 1, _, by omega, by go_num, hP8.mono (by omega) (fun i hi => hi.elim id (fun h => ⟨Nat.le_trans HB7.out.size (Nat.le_trans HBQ.out.size h), by have := HBQ.out.size; omega⟩)), HOP.out.trans HDN7.out, HCM7.out.op _ HSP.out, hb8, Nat.lt_of_lt_of_le hbwq (Nat.le_trans HBQ.out.size hK8.size), hrd8⟩
                  case measure => simp [intOf]; omega
              · have e2 : decide (x1 ≤ x % 20) = false := by simpa using g2
                have e1 : ((kd == 0) : Bool) = true := by simpa using g1
                have HSP := Lib.hid (show Spares ⟨kd, x1, n', A', bn, bc, l, A2', kn', kc', ks'⟩ (x % 20) from fun hh => g2 hh.2.1)
                clear g1 g2
                go_wp2
                rw [← HW1.out]
                go_quiet ((go_at_call 14; refine (HND.out _).mono ?_; rintro e w1 ⟨rfl, rfl⟩; exact ⟨rfl, _, rfl⟩))
                have hbq : Below W1.heap.size W1 (W1.drewN nq) := ⟨rfl, rfl, rfl, Nat.le_refl _, fun _ _ => rfl⟩
                have t0 := (hbq.cell (p := ⟨wr.heap.size, 0, none⟩) (block_lt_of_cell s0)).trans s0
                have t1 := (hbq.cell (p := ⟨wr.heap.size, 1, none⟩) (block_lt_of_cell s1)).trans s1
                have t2 := (hbq.cell (p := ⟨wr.heap.size, 2, none⟩) (block_lt_of_cell s2)).trans s2
                have t3 := (hbq.cell (p := ⟨wr.heap.size, 3, none⟩) (block_lt_of_cell s3)).trans s3
                have t4 := (hbq.cell (p := ⟨wr.heap.size, 4, none⟩) (block_lt_of_cell s4)).trans s4
                have hb1q := HB01.out.trans (hbq.mono HB01.out.size)
                have HBQ := Lib.hid hb1q
                clear hbq hb1q
                generalize W1.drewN nq = W2 at *
                go_wp2_with (first
                  | (go_at_call 11; refine (HDO.out _ HBQ.out).mono ?_; rintro e w8 ⟨⟨b8, rfl⟩, hP8, hK8⟩)
                  | fail)
                have hb02 : Below w.heap.size w W2 := HB7.out.trans (HBQ.out.mono HB7.out.size)
                have hb8 : Below w.heap.size w w8 := hb02.trans (hK8.below (B := w.heap.size) hb02.size (fun i hi => hi.1))
                have hrd8 : Rd w8 w8.heap.size 1 (some ⟨bw, o6, none⟩) 64 c6 (u8s S0) := ((HRW.out.below HBQ.out).stay' (fun b o e hb => hK8.block b (Nat.lt_of_lt_of_le hb HBQ.out.size) (fun hf => hf.2 (by cases e; rfl)))).more (Nat.le_trans HBQ.out.size hK8.size)
                have hbwq := HBWL.out
                go_roundw
                case rel => exact ⟨j + 1, _, by omega, by go_num, hP8.mono (by omega) (fun i hi => hi.elim id (fun h => ⟨Nat.le_trans HB7.out.size (Nat.le_trans HBQ.out.size h), by have := HBQ.out.size; omega⟩)), HOP.out.trans HDN7.out, HCM7.out.op _ HSP.out, hb8, Nat.lt_of_lt_of_le hbwq (Nat.le_trans HBQ.out.size hK8.size), hrd8⟩
                case measure => simp [intOf]; omega
            · have e1 : ((kd == 0) : Bool) = false := by simpa using g1
              have HSP := Lib.hid (show Spares ⟨kd, x1, n', A', bn, bc, l, A2', kn', kc', ks'⟩ (x % 20) from fun hh => g1 hh.1)
              clear g1
              go_wp2
              rw [← HW1.out]
              go_quiet ((go_at_call 14; refine (HND.out _).mono ?_; rintro e w1 ⟨rfl, rfl⟩; exact ⟨rfl, _, rfl⟩))
              have hbq : Below W1.heap.size W1 (W1.drewN nq) := ⟨rfl, rfl, rfl, Nat.le_refl _, fun _ _ => rfl⟩
              have t0 := (hbq.cell (p := ⟨wr.heap.size, 0, none⟩) (block_lt_of_cell s0)).trans s0
              have t1 := (hbq.cell (p := ⟨wr.heap.size, 1, none⟩) (block_lt_of_cell s1)).trans s1
              have t2 := (hbq.cell (p := ⟨wr.heap.size, 2, none⟩) (block_lt_of_cell s2)).trans s2
              have t3 := (hbq.cell (p := ⟨wr.heap.size, 3, none⟩) (block_lt_of_cell s3)).trans s3
              have t4 := (hbq.cell (p := ⟨wr.heap.size, 4, none⟩) (block_lt_of_cell s4)).trans s4
              have hb1q := HB01.out.trans (hbq.mono HB01.out.size)
              have HBQ := Lib.hid hb1q
              clear hbq hb1q
              generalize W1.drewN nq = W2 at *
              go_wp2_with (first
                | (go_at_call 11; refine (HDO.out _ HBQ.out).mono ?_; rintro e w8 ⟨⟨b8, rfl⟩, hP8, hK8⟩)
                | fail)
              have hb02 : Below w.heap.size w W2 := HB7.out.trans (HBQ.out.mono HB7.out.size)
              have hb8 : Below w.heap.size w w8 := hb02.trans (hK8.below (B := w.heap.size) hb02.size (fun i hi => hi.1))
              have hrd8 : Rd w8 w8.heap.size 1 (some ⟨bw, o6, none⟩) 64 c6 (u8s S0) := ((HRW.out.below HBQ.out).stay' (fun b o e hb => hK8.block b (Nat.lt_of_lt_of_le hb HBQ.out.size) (fun hf => hf.2 (by cases e; rfl)))).more (Nat.le_trans HBQ.out.size hK8.size)
              have hbwq := HBWL.out
              go_roundw
              case rel => exact ⟨j + 1, _, by omega, by go_num, hP8.mono (by omega) (fun i hi => hi.elim id (fun h => ⟨Nat.le_trans HB7.out.size (Nat.le_trans HBQ.out.size h), by have := HBQ.out.size; omega⟩)), HOP.out.trans HDN7.out, HCM7.out.op _ HSP.out, hb8, Nat.lt_of_lt_of_le hbwq (Nat.le_trans HBQ.out.size hK8.size), hrd8⟩
              case measure => simp [intOf]; omega
          · obtain rfl : j = n2 := by omega
            have hj60 : j ≤ 60 := by have := HFB.out.1; have := H2.out.len; omega
            obtain ⟨cs, cl, cv, ck, cvs, cvl, cr, hDc, hkc, hdc, _, _, _, _, hFc⟩ := HP7.out
            have h3w : Rd wr wr.heap.size 1 A3 kn kc (ks.map (Value.int .i64)) := (H3.out.below HB7.out).more HB7.out.size
            have hcr := crash_all hDc hkc hdc (by omega) A3 kn kc ks h3w (by omega) (fun h0 b o e hf => by
              obtain ⟨b', o', e', hb', _⟩ := H3.out.2.2.2 h0
              rw [e] at e'
              cases e'
              have := (hFc b (.inl hf)).1
              omega)
            have hcm := HCM7.out.crash ks
            have hcn : (dj.crash ks).n = 20 := ((Dv.crash1_ws dj ks dj.ws.length).2.1).trans HDN7.out
            obtain ⟨d9, hd9⟩ : ∃ d9, d9 = dj.crash ks := ⟨_, rfl⟩
            have hdw9 : d9.down = false := by rw [hd9]; rfl
            rw [← hd9] at hcr hcm hcn
            have hby9 : d9.bytes (x % 20) 1 = S0 := by
              show [] ++ d9.seen (x % 20 + ((0 : Nat) : Int)) = S0
              rw [List.nil_append, show x % 20 + ((0 : Nat) : Int) = x % 20 from by omega]
              exact hcm.seen
            have hrg := fun (W : World) (g1 g2 : Nat) (v1 : Value) (k1 : Nat) (hd : Dev W w.heap.size g g1 g2 v1 k1 d9) => read_good hd hdw9 (x % 20) 1 (by omega) (by rw [hcn]; omega)
            rw [hby9] at hrg
            have HCR := Lib.hid hcr
            have HRG9 := Lib.hid hrg
            have HFC := Lib.hid (show ∀ b, Foot g cs cl cv b → w.heap.size ≤ b ∧ b ≠ bw from fun b hb => hFc b (.inl hb))
            clear hDc hkc hdc hFc h3w hcr hcm hcn hdw9 hby9 hrg hd9 HSE
            go_wp2_with (first
              | (go_at_call 15; refine HCR.out.mono ?_; rintro e w8 ⟨rfl, hD8⟩
                 obtain ⟨e1, e2, e3, e4, hd8, _, _, hK8, _⟩ := hD8
                 have HB8 := Lib.hid (HB7.out.trans (hK8.below (B := w.heap.size) HB7.out.size (fun i hi => (HFC.out i hi).1)))
                 have HR8 := Lib.hid ((HRW.out.stay' (w' := w8) (fun b o e hb => hK8.block b hb (fun hf => (HFC.out b hf).2 (by cases e; rfl)))).more hK8.size)
                 have HRG10 := Lib.hid (HRG9.out _ _ _ _ _ hd8)
                 clear hd8 hK8)
              | (go_at_call 13; refine HRG10.out.mono ?_; rintro e w10 ⟨v10, rfl, hown10, hb10⟩
                 obtain ⟨A10, c10, rfl, hr10⟩ := rd_owns hown10
                 have HR10 := Lib.hid hr10
                 have HR11 := Lib.hid (HR8.out.below hb10)
                 have HB10 := Lib.hid (HB8.out.trans (hb10.mono HB8.out.size))
                 have hcv1 := run_str Try.underlying31 Try.underlying5 Try.underlying9 HR11.out
                 have hcv2 := run_str Try.underlying31 Try.underlying5 Try.underlying9 HR10.out
                 clear hr10 hown10 hb10)
              | (go_at_call 8; refine (dlives _).mono ?_; rintro e w9 ⟨rfl, hb9⟩)
              | fail)
            go_ret
            exact ⟨rfl, HB10.out.trans (hb9.mono HB10.out.size)⟩
      · have hne : ((dd.flush.2 != 0) : Bool) = true := by simpa using h0
        have HFL := Lib.hid hfl
        have HWB := Lib.hid hwb
        generalize dd.flush.2 = E at *
        clear hfl hwb h0
        go_wp2_with (first
          | (go_at_call 12; refine HFL.out.mono ?_; rintro e w5 ⟨rfl, hD5⟩
             have HK5 : Hid (Keeps (Foot g bs bl v) wr w5) := Lib.hid (by obtain ⟨a1, a2, a3, a4, a5, a6, a7, a8, a9⟩ := hD5; exact a8))
          | (go_at_call 8; refine (dlives _).mono ?_; rintro e w9 ⟨rfl, hb9⟩)
          | fail)
        go_ret
        have hb5 := HB.out.trans (HK5.out.below HB.out.size HWB.out)
        exact ⟨rfl, hb5.trans (hb9.mono hb5.size)⟩


theorem deviceFirm_walk {w : World} {A1 : Option Addr} {n1 c1 : Nat} {os1 : List Opd} (h1 : Ops w A1 n1 c1 os1) {A2 : Option Addr} {n2 c2 : Nat} {os2 : List Opd} (h2 : Ops w A2 n2 c2 os2) (x : Int) (hx : (Lit.int .u8 x).wf = true) (A3 : Option Addr) (kn kc : Nat) (ks : List Int) (h3 : Rd w w.heap.size 1 A3 kn kc (ks.map (Value.int .i64))) (_h4 : ∀ z ∈ ks, (Lit.int .i64 z).wf = true) :
    Calls Try.prog 3 #[.slice A1 n1 c1, .slice A2 n2 c2, .int .u8 x, .slice A3 kn kc] w fun e w' => e = .returned (.bool true) ∧ Below w.heap.size w w' := by
  have hw : 0 ≤ x ∧ x < 256 := by
    simp [Lit.wf, IntKind.min, IntKind.max, IntKind.signed, IntKind.bits] at hx
    omega
  exact firm_at h1 h2 x hw.1 hw.2 ks h3

namespace deviceFirm
open Go.ChangeShapes Go.WideShapes Go.ChangeAt
set_option maxRecDepth 100000 in
theorem lifted (os : Os) (started : os.Started) (H : Type) (enc : TypeId × Value → H) :
    ReturnsInHanded {} Try.checked os 3 .any (Rows.deviceFirmSpec.pre6 enc Try.prog Try.f3 Rows.deviceFirmRow.domain false) (Rows.deviceFirmSpec.post enc Try.prog Try.f3 false true false false) := by
  refine returnsInHanded_of_change (C := Try.checked) own started (by kernel_rfl) Try.func3
    (ChangeSpec.witness6 (enc := enc) (C := Try.checked) false ⟨#[], #[.slice none 0 0, .slice none 0 0, .int .u8 0, .slice none 0 0], []⟩ 8 (by kernel_rfl) (by kernel_rfl) (by kernel_rfl) (by kernel_rfl)) ?_
  intro W base args ds gs before hval0 hW _ _
  have hval : ∀ (j : Nat) t v, Try.f3.params[j]? = some t → args[j]? = some v → Value.okWide Try.prog W .any base t v := hval0
  have hW' := hW
  obtain ⟨p, q, hA0, hV, rfl, hfz, hnd⟩ := hW
  have hA : DataW.TrodAll enc Try.prog W 0 (fun _ => true) true Try.f3.params.toList args.toList ds p := hA0
  rw [Try.params3] at hA hval
  obtain ⟨v0, vs0, d0, ds0, p0, q0, hargs, rfl, rfl, h0, r0⟩ := trodAll_cons hA
  obtain ⟨v1, vs1, d1, ds1, p1, q1, rfl, rfl, rfl, h1, r1⟩ := trodAll_cons r0
  obtain ⟨v2, vs2, d2, ds2, p2, q2, rfl, rfl, rfl, h2, r2⟩ := trodAll_cons r1
  obtain ⟨v3, vs3, d3, ds3, p3, q3, rfl, rfl, rfl, h3, r3⟩ := trodAll_cons r2
  obtain ⟨rfl, rfl, rfl⟩ := trodAll_nil r3
  obtain rfl : args = #[v0, v1, v2, v3] := by cases args; simp_all
  obtain ⟨rfl, rfl⟩ := trodVars_none hV
  have k0 := h0
  have lt0 : ∀ x ∈ p0, x.block < W.heap.size := by obtain ⟨m, hm⟩ := k0; exact DataW.trod_lt m _ _ _ hm
  obtain ⟨a0, n0, c0, l0, rfl, w0⟩ := dec_ops Try.underlying22 Try.underlying33 (by kernel_rfl) (by kernel_rfl) Try.underlying3 Try.underlying3 Try.underlying3 Try.underlying31 Try.underlying5 (by kernel_rfl) Try.underlying23 Try.underlying3 (by kernel_rfl) (hval 0 22 v0 rfl rfl) h0
  have k1 := h1
  have lt1 : ∀ x ∈ p1, x.block < W.heap.size := by obtain ⟨m, hm⟩ := k1; exact DataW.trod_lt m _ _ _ hm
  obtain ⟨a1, n1, c1, l1, rfl, w1⟩ := dec_ops Try.underlying22 Try.underlying33 (by kernel_rfl) (by kernel_rfl) Try.underlying3 Try.underlying3 Try.underlying3 Try.underlying31 Try.underlying5 (by kernel_rfl) Try.underlying23 Try.underlying3 (by kernel_rfl) (hval 1 22 v1 rfl rfl) h1
  have k2 := h2
  have lt2 : ∀ x ∈ p2, x.block < W.heap.size := by obtain ⟨m, hm⟩ := k2; exact DataW.trod_lt m _ _ _ hm
  obtain ⟨x2, rfl, w2⟩ := dec_int Try.underlying5 (hval 2 5 v2 rfl rfl) h2
  have k3 := h3
  have lt3 : ∀ x ∈ p3, x.block < W.heap.size := by obtain ⟨m, hm⟩ := k3; exact DataW.trod_lt m _ _ _ hm
  obtain ⟨a3, n3, c3, l3, rfl, w3, b3⟩ := dec_nums (k := .i64) Try.underlying23 Try.underlying3 (by kernel_rfl) (hval 3 23 v3 rfl rfl) h3
  clear hA0 hval0
  refine (deviceFirm_walk w0 w1 x2 w2 a3 n3 c3 l3 w3 b3).mono fun e W' ⟨he, bel⟩ => ?_
  subst he
  exact ⟨_, rfl, _, _, _, [], _, [], hW', trodAll_mk1 (shut_bool Try.underlying4 _), (trodAll_cons_mk (Below.trod laidOut (by kernel_rfl) (of_decide_eq_true (by kernel_rfl)) k0 bel lt0) (trodAll_cons_mk (Below.trod laidOut (by kernel_rfl) (of_decide_eq_true (by kernel_rfl)) k1 bel lt1) (trodAll_cons_mk (Below.trod laidOut (by kernel_rfl) (of_decide_eq_true (by kernel_rfl)) k2 bel lt2) (trodAll_cons_mk (Below.trod laidOut (by kernel_rfl) (of_decide_eq_true (by kernel_rfl)) k3 bel lt3) trodAll_mk0)))), rfl, bel.frame _, fun h => by cases h⟩

theorem over : Rows.deviceFirmRow.holds Try.pinned (OpenSpec.ofChange Rows.deviceFirmSpec) :=
  OpenClaim.holds_of_wide 3 Try.f3 rfl rfl rfl rfl rfl rfl rfl ⟨rfl, rfl, rfl, rfl, rfl⟩ rfl rfl rfl rfl rfl (by kernel_rfl) Try.func3 (by kernel_rfl)
    (of_decide_eq_true (by kernel_rfl)) (by unfold Func.isWrapper; first | (rw [if_pos (by decide +kernel)]; kernel_rfl) | (rw [if_neg (by decide +kernel)]; exact ⟨rfl, rfl⟩))
    (fun os started H enc _ => lifted os started H enc)
/-- The given statement. -/
theorem proved : Rows.DeviceFirmSaid := over
end deviceFirm

end Go.Proofs.Ytdmcbojncgdccaa

/- DeviceTorn: behind a crash each byte of a sector is the one that was safe, or one of a change that waited. -/
import Derived.Test.YtdmcbojncgdccaaOwn
import Derived.Test.YtdmcbojncgdccaaDeviceFirm
import Derived.Test.YtdmcbojncgdccaaFzero
import Derived.Deep.DeepCutAuto
import Derived.Deep.CutBlock
namespace Go.Proofs.Ytdmcbojncgdccaa
open Go.RowKit

theorem pad_get (a : List UInt8) (i : Nat) (hi : i < 64) : (a ++ List.replicate 64 0)[i]? = (pad a)[i]? := by
  unfold pad Z
  rcases Nat.lt_or_ge i a.length with h | h
  · rw [List.getElem?_append_left h, List.getElem?_append_left h]
  · rw [List.getElem?_append_right h, List.getElem?_append_right h, List.getElem?_drop, List.getElem?_replicate, List.getElem?_replicate, if_pos (by omega), if_pos (by omega)]
theorem byte_at {w : World} {B n c i : Nat} {A : Option Addr} {l : List UInt8} (h : Rd w B 1 A n c (u8s l)) {u : UInt8} (hu : l[i]? = some u) : ∃ b o, A = some ⟨b, o, none⟩ ∧ b < B ∧ w.cell? ⟨b, o + i, none⟩ = some (.int .u8 ((u.toNat : Nat) : Int)) ∧ i < n := by
  have hl := h.len
  rw [u8s_len] at hl
  have hi := (List.getElem?_eq_some_iff.1 hu).1
  obtain ⟨b, o, hA, hb, hc⟩ := h.2.2.2 (by omega)
  exact ⟨b, o, hA, hb, hc i _ (by unfold u8s; rw [List.getElem?_map, hu]; rfl), by omega⟩

set_option maxHeartbeats 8000000 in
set_option maxRecDepth 8000 in
theorem deviceTorn_walk {w : World} {A1 : Option Addr} {n1 c1 : Nat} {os1 : List Opd} (h1 : Ops w A1 n1 c1 os1) (A2 : Option Addr) (n2 c2 : Nat) (a : List UInt8) (h2 : Rd w w.heap.size 1 A2 n2 c2 (u8s a)) (A3 : Option Addr) (n3 c3 : Nat) (b : List UInt8) (h3 : Rd w w.heap.size 1 A3 n3 c3 (u8s b)) (A4 : Option Addr) (kn kc : Nat) (ks : List Int) (h4 : Rd w w.heap.size 1 A4 kn kc (ks.map (Value.int .i64))) (_h5 : ∀ z ∈ ks, (Lit.int .i64 z).wf = true) :
    Calls Try.prog 4 #[.slice A1 n1 c1, .slice A2 n2 c2, .slice A3 n3 c3, .slice A4 kn kc] w fun e w' => e = .returned (.bool true) ∧ Below w.heap.size w w' := by
  have hn1 : (n1 : Int) ≤ 9223372036854775807 := by have a := h1.rd.1; have b := h1.rd.2.1; unfold maxLen at b; omega
  have hn2 : (n2 : Int) ≤ 9223372036854775807 := by have a := h2.1; have b := h2.2.1; unfold maxLen at b; omega
  have hn3 : (n3 : Int) ≤ 9223372036854775807 := by have a := h3.1; have b := h3.2.1; unfold maxLen at b; omega
  have hkn : (kn : Int) ≤ 9223372036854775807 := by have a := h4.1; have b := h4.2.1; unfold maxLen at b; omega
  have H1 := Lib.hid h1
  have H2 := Lib.hid h2
  have H3 := Lib.hid h3
  have H4 := Lib.hid h4
  clear h1 h2 h3 h4
  go_enter Try.func4, Try.ntmps4
  go_wp2_with (first
    | (go_at_call 7; refine (light_any H1.out).mono ?_; rintro e w1 ⟨b1, rfl, hf1, hb1⟩
       have HF1 := Lib.hid hf1
       have HB2 := Lib.hid hb1
       clear hf1 hb1
       cases b1)
    | (go_at_call 8; refine (dlives _).mono ?_; rintro e w9 ⟨rfl, hb9⟩)
    | (go_at_call 9; refine (new_good 20 _ (by omega) (by omega)).mono ?_; rintro e w3 ⟨F3, g, rfl, hD3, hb3⟩
       have HD3 := Lib.hid hD3
       have HZ3 := Lib.hid HB2.out.size
       have HB3 := Lib.hid (HB2.out.trans (hb3.mono HB2.out.size))
       clear hD3 hb3)
    | (go_at_call 10; refine (rnew_good 20 _ (by omega) (by omega)).mono ?_; rintro e w4 ⟨rfl, hR4, hb4⟩
       have HP4 := Lib.hid (pair_new HD3.out HZ3.out HB3.out.size hR4 hb4)
       have HB4 := Lib.hid (HB3.out.trans (hb4.mono HB3.out.size))
       clear hR4 hb4)
    | fail)
  any_goals (go_ret; exact ⟨rfl, HB2.out.trans (hb9.mono HB2.out.size)⟩)
  have hk2 : kn ≤ 200 := by have h : (((((n2 : Int) ≤ 64 ∧ (n3 : Int) ≤ 64) ∧ ((n2 : Int) == 0) = false) ∧ ((n3 : Int) == 0) = false) ∧ (kn : Int) ≤ 200) := by assumption
                            omega
  have ha64 : n2 ≤ 64 := by have : (n2 : Int) ≤ 64 := by assumption
                            omega
  have hb64 : n3 ≤ 64 := by have : (n3 : Int) ≤ 64 := by assumption
                            omega
  have ha0 : 0 < n2 := by have : ¬ n2 = 0 := by assumption
                          omega
  have hb0 : 0 < n3 := by have : ¬ n3 = 0 := by assumption
                          omega
  obtain ⟨q, hq⟩ : ∃ q, q = w3.heap.size := ⟨_, rfl⟩
  have hP4 := HP4.out
  have hB3 := HB3.out.size
  rw [← hq] at hP4 hB3
  rw [← hq]
  have HP := Lib.hid hP4
  have HQ := Lib.hid hB3
  have HFA := Lib.hid (HF1.out trivial)
  have HK2 := Lib.hid hk2
  clear hP4 hB3 hq HP4 HD3 HB3 HZ3 HF1 hk2
  go_loopw [59] (fun ir wr => ∃ (i : Nat) (dd : Dv), i ≤ n1 ∧ ir = .int .i64 (i : Int) ∧ Pair wr w.heap.size g q (fun i => w.heap.size ≤ i) (16 * i) dd ∧ dd.n = 20 ∧ Below w.heap.size w wr) (fun ir _ => n1 - (intOf ir).toNat)
  case atStart => exact ⟨0, Dv.new 20, Nat.zero_le _, rfl, HP.out, rfl, HB4.out⟩
  case round =>
    obtain ⟨i, dd, hi, rfl, hP, hdn, hb⟩ := hrel
    have HB := Lib.hid hb
    have HPP := Lib.hid hP
    have HDN := Lib.hid hdn
    clear hb hP hdn
    by_cases hlt : i < n1
    · obtain ⟨p, hp⟩ : ∃ p, os1[i]? = some p := ⟨_, List.getElem?_eq_getElem (by have := H1.out.len; omega)⟩
      have hmem := List.mem_of_getElem? hp
      obtain ⟨hf1, hf2⟩ := HFA.out.2 p hmem
      obtain ⟨b, o, rfl, hbb, hcc⟩ := H1.out.rd.2.2.2 (by omega)
      have hi60 : i ≤ 60 := by have := HFA.out.1; have := H1.out.len; omega
      have hdo := fun (cs : Obj) => do_next (w := w) (wr := wr.alloc cs) (q := q) (F := fun i => w.heap.size ≤ i) (fun i hi => hi) (HPP.out.keeps (F := fun i => w.heap.size ≤ i) (G := fun _ => False) ((Keeps.refl _ _).alloc cs) (fun i hi => hi.elim)) (by omega) (HB.out.alloc HB.out.size cs) p (H1.out.reads p hmem) hf1 hf2
      have hop := Dv.op_n dd p
      obtain ⟨kd, x1, n', A', bn, bc, l, A2', kn', kc', ks'⟩ := p
      have hc := fun j u (hu : (Opd.cells ⟨kd, x1, n', A', bn, bc, l, A2', kn', kc', ks'⟩)[j]? = some u) => (HB.out.cell (p := ⟨b, o + (i * 5 + j), none⟩) hbb).trans (hcc _ _ (opsv_get os1 i _ hp j u hu))
      have k0 : wr.cell? ⟨b, o + i * 5, none⟩ = some (.int .i64 kd) := hc 0 _ rfl
      have k1 : wr.cell? ⟨b, o + i * 5 + 1, none⟩ = some (.int .i64 x1) := hc 1 _ rfl
      have k2 : wr.cell? ⟨b, o + i * 5 + 2, none⟩ = some (.int .i64 n') := hc 2 _ rfl
      have k3 : wr.cell? ⟨b, o + i * 5 + 3, none⟩ = some (.slice A' bn bc) := hc 3 _ rfl
      have k4 : wr.cell? ⟨b, o + i * 5 + 4, none⟩ = some (.slice A2' kn' kc') := hc 4 _ rfl
      have hlti : (i : Int) < (n1 : Int) := by omega
      have hii : (i : Int) ≤ 60 := by omega
      have HDO := Lib.hid hdo
      have HOP := Lib.hid hop
      clear hc hcc hp hmem hdo hop hf1 hf2
      go_wp2_with (first
        | (go_at_call 11; refine (HDO.out _).mono ?_; rintro e w5 ⟨⟨b5, rfl⟩, hP5, hK5⟩)
        | fail)
      have hb5 := (HB.out.alloc HB.out.size _).trans (hK5.below (B := w.heap.size) (Nat.le_trans HB.out.size (by simp)) (fun i hi => hi))
      go_roundw
      case rel => exact ⟨i + 1, _, by omega, by go_num, hP5.mono (by omega) (fun j hj => hj.elim id (fun h => Nat.le_trans HB.out.size (Nat.le_trans (by simp) h))), HOP.out.trans HDN.out, hb5⟩
      case measure => simp [intOf]; omega
    · obtain rfl : i = n1 := by omega
      have hi60 : i ≤ 60 := by have := HFA.out.1; have := H1.out.len; omega
      have hO0 := Own.of_pair HPP.out
      have hcr0 := own_crash hO0 (by omega) none 0 0 [] Rd.nil_ (by omega) (fun h => absurd h (by omega))
      have hcn : (dd.crash []).n = 20 := ((Dv.crash1_ws dd [] dd.ws.length).2.1).trans HDN.out
      obtain ⟨d1, hd1⟩ : ∃ d1, d1 = dd.crash [] := ⟨_, rfl⟩
      have hdown : d1.down = false := by rw [hd1]; rfl
      have hfuse : d1.fuse = 0 := by rw [hd1]; rfl
      have hws : d1.ws = [] := by rw [hd1]; rfl
      rw [← hd1] at hcr0 hcn
      have hby := Dv.calm_bytes d1 hws 3
      have hla : a.length = n2 := by have := H2.out.len; rwa [u8s_len] at this
      have hlb : b.length = n3 := by have := H3.out.len; rwa [u8s_len] at this
      have hq1 : (n2 + 63) / 64 = 1 := by omega
      have hq2 : (n3 + 63) / 64 = 1 := by omega
      have hw1 := Dv.write_one d1 hdown hfuse 3 a (by omega)
      have HCR := Lib.hid hcr0
      have HD1 := Lib.hid (And.intro hdown (And.intro hfuse (And.intro hws hcn)))
      have HBY := Lib.hid hby
      have HW1 := Lib.hid hw1
      have HQ1 := Lib.hid (And.intro hq1 hq2)
      have HAB := Lib.hid (And.intro ha64 (And.intro hb64 (And.intro ha0 hb0)))
      have HL := Lib.hid (And.intro hla hlb)
      have HI := Lib.hid hi60
      obtain ⟨d2, hd2⟩ : ∃ d2, d2 = { d1 with ws := d1.ws ++ [((3 : Int), pad a)], done := d1.done + 1 } := ⟨_, rfl⟩
      have hws2 : d2.ws = [((3 : Int), pad a)] := by rw [hd2]; show d1.ws ++ _ = _; rw [hws]; rfl
      have hS2 : d2.S = d1.S := by rw [hd2]
      have hdown2 : d2.down = false := by rw [hd2]; exact hdown
      have hfuse2 : d2.fuse = 0 := by rw [hd2]; exact hfuse
      have hn2' : d2.n = 20 := by rw [hd2]; exact hcn
      have hw2 := Dv.write_one d2 hdown2 hfuse2 3 b (by omega)
      rw [← hd2] at hw1
      obtain ⟨d3, hd3⟩ : ∃ d3, d3 = { d2 with ws := d2.ws ++ [((3 : Int), pad b)], done := d2.done + 1 } := ⟨_, rfl⟩
      rw [← hd3] at hw2
      have hws3 : d3.ws = [((3 : Int), pad a), ((3 : Int), pad b)] := by rw [hd3]; show d2.ws ++ _ = _; rw [hws2]; rfl
      have hS3 : d3.S = d1.S := by rw [hd3]; exact hS2
      have hn3' : d3.n = 20 := by rw [hd3]; exact hn2'
      obtain ⟨g1, g2, g3, g4, g5⟩ := Dv.crash_two d3 3 (pad a) (pad b) hws3 ks
      rw [hS3] at g1
      rw [hn3'] at g5
      obtain ⟨d4, hd4⟩ : ∃ d4, d4 = d3.crash ks := ⟨_, rfl⟩
      rw [← hd4] at g1 g2 g3 g5
      have hby4 := Dv.calm_bytes d4 g2 3
      rw [g1] at hby4
      have HD4 := Lib.hid hd4
      have HG := Lib.hid (And.intro g3 g5)
      have HBY4 := Lib.hid hby4
      have HWA := Lib.hid hw1
      have HWB := Lib.hid hw2
      have HDN2 := Lib.hid (And.intro hdown2 hn2')
      clear hO0 hcr0 hcn hd1 hdown hfuse hws hby hla hlb hq1 hq2 hw1 hd2 hws2 hS2 hdown2 hfuse2 hn2' hw2 hd3 hws3 hS3 hn3' g1 g2 g3 g4 g5 hd4 hby4 ha64 hb64 ha0 hb0 hi60 HW1
      have HM := Lib.hid (show 16 * i ≤ 1000 by have := HI.out; omega)
      generalize 16 * i = M at *
      go_upto_region 20 with (first
        | (go_at_call 15; have hx := HO7.out; clear hx
           refine (own_crash HO7.out (by have := HM.out; omega) A4 kn kc ks ((H4.out.below HB7.out).more HB7.out.size) (by have := HK2.out; omega) (fun h0 b o e hf => by
             obtain ⟨b', o', e', hb', _⟩ := H4.out.2.2.2 h0
             rw [e] at e'
             cases e'
             have := hf.1
             omega)).mono ?_
           rw [← HD4.out]
           rintro e w8 ⟨rfl, hO8, hK8⟩
           have HR8 := Lib.hid ((HR7.out.stay' (fun b o e hb => hK8.block b hb (fun hf => hf.2 (by cases e; rfl)))).more hK8.size)
           have HB8 := Lib.hid (HB7.out.trans (hK8.below (B := w.heap.size) HB7.out.size (fun i hi => hi.1)))
           have HO8 := Lib.hid hO8
           clear hO8 hK8)
        | (go_at_call 15; refine HCR.out.mono ?_; rintro e w5 ⟨rfl, hO5, hK5⟩
           have HB5 := Lib.hid (HB.out.trans (hK5.below (B := w.heap.size) HB.out.size (fun i hi => hi)))
           have HO5 := Lib.hid (hO5.mono (N' := fun i => w.heap.size ≤ i ∧ i < w5.heap.size) (Nat.le_refl _) (fun i hl hi => ⟨hi.elim id (fun h => Nat.le_trans HB.out.size h), hl⟩))
           clear hO5 hK5)
        | (go_at_call 13; have hx := HO8.out; clear hx; refine (own_read HO8.out HG.out.1 3 1 (by omega) (by rw [HG.out.2]; omega)).mono ?_; rintro e w10 ⟨v10, rfl, hown10, hb10⟩
           rw [HBY4.out] at hown10
           obtain ⟨A10, c10, rfl, hr10⟩ := rd_owns hown10
           have HR10 := Lib.hid hr10
           have HR11 := Lib.hid ((HR8.out.below hb10).more hb10.size)
           have HB10 := Lib.hid (HB8.out.trans (hb10.mono HB8.out.size))
           clear hown10 hr10 hb10)
        | (go_at_call 13; refine (own_read HO5.out HD1.out.1 3 1 (by omega) (by rw [HD1.out.2.2.2]; omega)).mono ?_; rintro e w6 ⟨v6, rfl, hown6, hb6⟩
           rw [HBY.out] at hown6
           have hO6 := HO5.out.below hb6
           have hlt6 := hown6.lt
           obtain ⟨A6, c6, rfl, hr6⟩ := rd_owns hown6
           obtain ⟨bw, o6, rfl, hbw, _⟩ := hr6.2.2.2 (by omega)
           have hbw5 := (hlt6 bw rfl).1
           have HBW := Lib.hid hbw
           have HR6 := Lib.hid hr6
           have HO6 := Lib.hid (hO6.mono (N' := fun i => w.heap.size ≤ i ∧ i ≠ bw) (Nat.le_refl _) (fun i hi h => ⟨h.1, by have := h.2; omega⟩))
           have HB6 := Lib.hid (HB5.out.trans (hb6.mono HB5.out.size))
           clear hown6 hr6 hb6 hO6 hlt6 hbw hbw5)
        | (go_at_call 16; have hx := HO6a.out; clear hx
           refine (own_write HO6a.out (by have := HM.out; omega) HDN2.out.1 3 A3 n3 c3 b ((H3.out.below HB6a.out).more HB6a.out.size) (fun h0 b o e hf => by
             obtain ⟨b', o', e', hb', _⟩ := H3.out.2.2.2 h0
             rw [e] at e'
             cases e'
             have := hf.1
             omega) (by omega) (by have := HQ1.out.2; have := HDN2.out.2; omega) (by have := HAB.out.2.1; omega)).mono ?_
           rw [HQ1.out.2, HWB.out]
           rintro e w7 ⟨rfl, hO7, hK7⟩
           have HR7 := Lib.hid ((HR6a.out.stay' (fun b o e hb => hK7.block b hb (fun hf => hf.2 (by cases e; rfl)))).more hK7.size)
           have HB7 := Lib.hid (HB6a.out.trans (hK7.below (B := w.heap.size) HB6a.out.size (fun i hi => hi.1)))
           have HO7 := Lib.hid (hO7.mono (N' := fun i => w.heap.size ≤ i ∧ i ≠ bw) (Nat.le_refl _) (fun i hi h => h.elim id (fun h => ⟨Nat.le_trans HB6a.out.size h, by have := HBWA.out; omega⟩)))
           clear hO7 hK7)
        | (go_at_call 16
           refine (own_write HO6.out (by have := HM.out; omega) HD1.out.1 3 A2 n2 c2 a ((H2.out.below HB6.out).more HB6.out.size) (fun h0 b o e hf => by
             obtain ⟨b', o', e', hb', _⟩ := H2.out.2.2.2 h0
             rw [e] at e'
             cases e'
             have := hf.1
             omega) (by omega) (by have := HQ1.out.1; have := HD1.out.2.2.2; omega) (by have := HAB.out.1; omega)).mono ?_
           rw [HQ1.out.1, HWA.out]
           rintro e w6a ⟨rfl, hO6a, hK6a⟩
           have HR6a := Lib.hid ((HR6.out.stay' (fun b o e hb => hK6a.block b hb (fun hf => hf.2 (by cases e; rfl)))).more hK6a.size)
           have HB6a := Lib.hid (HB6.out.trans (hK6a.below (B := w.heap.size) HB6.out.size (fun i hi => hi.1)))
           have HO6a := Lib.hid (hO6a.mono (N' := fun i => w.heap.size ≤ i ∧ i ≠ bw) (Nat.le_refl _) (fun i hi h => h.elim id (fun h => ⟨Nat.le_trans HB6.out.size h, by have := HBW.out; omega⟩)))
           have HBWA := Lib.hid (Nat.lt_of_lt_of_le HBW.out hK6a.size)
           clear hO6a hK6a)
        | fail)
      go_wp2_with (first
        | (at_builtin; refine wpL_app (o := ⟨some 111, _, _, _, _, _⟩) (v := .slice (some ⟨w10.heap.size, 0, none⟩) 0 0) (y := .slice A2 n2 c2) rfl (.tmp 109) (.tmp 110) _ _ rfl E_by rfl rfl (World.ownsRow_lit (base := w10.heap.size) w10 #[] 0 (Nat.le_refl _) (Nat.zero_le _) rfl) ((H2.out.below (HB10.out.alloc HB10.out.size _)).src Try.underlying31 (u8s_one _)) (by have := HAB.out.1; unfold maxLen; omega) (by have := HAB.out.1; omega) (by simp) ?_
           intro v11 w11 hown11 hg11 hat11
           have hb11 : Below w10.heap.size w10 w11 := ((Below.refl _ _).alloc (Nat.le_refl _) _).grown hg11 (by simp) (fun j e => by cases e; exact Nat.le_refl _)
           rw [Nat.zero_add] at hown11
           obtain ⟨A11, c11, rfl⟩ := ownsRow_form hown11
           have HO11 := Lib.hid hown11
           have HB11 := Lib.hid hb11
           clear hown11 hg11 hat11 hb11)
        | (at_builtin; refine wpL_app0 (k := 64) (o := ⟨some 112, _, _, _, _, _⟩) rfl (.tmp 111) (.const (.int .i64 64)) _ _ rfl E_by Try.underlying3 rfl rfl (by omega) HO11.out (HAB.out.2.2.1) (by rw [zeros_u8]; exact u8s_one _) (by have := HAB.out.1; unfold maxLen; omega) (by have := HAB.out.1; omega) (HB11.out.size) ?_
           intro v12 w12 hown12 hg12
           have hb12 : Below w10.heap.size w10 w12 := HB11.out.grown hg12 HB11.out.size (fun j e => (HO11.out.lt j e).1)
           rw [zeros_u8, show ([] : List Value) ++ u8s a = u8s a from rfl, ← u8s_app] at hown12
           obtain ⟨A12, c12, rfl, hr12⟩ := rd_owns hown12
           have HX12 := Lib.hid hr12
           have HB12 := Lib.hid hb12
           clear hown12 hg12 hr12 hb12)
        | (at_builtin; refine wpL_app (o := ⟨some 115, _, _, _, _, _⟩) (v := .slice (some ⟨w12.heap.size, 0, none⟩) 0 0) (y := .slice A3 n3 c3) rfl (.tmp 113) (.tmp 114) _ _ rfl E_by rfl rfl (World.ownsRow_lit (base := w12.heap.size) w12 #[] 0 (Nat.le_refl _) (Nat.zero_le _) rfl) ((H3.out.below ((HB10.out.trans (HB12.out.mono HB10.out.size)).alloc (Nat.le_trans HB10.out.size HB12.out.size) _)).src Try.underlying31 (u8s_one _)) (by have := HAB.out.2.1; unfold maxLen; omega) (by have := HAB.out.2.1; omega) (by simp) ?_
           intro v13 w13 hown13 hg13 hat13
           have hb13 : Below w12.heap.size w12 w13 := ((Below.refl _ _).alloc (Nat.le_refl _) _).grown hg13 (by simp) (fun j e => by cases e; exact Nat.le_refl _)
           rw [Nat.zero_add] at hown13
           obtain ⟨A13, c13, rfl⟩ := ownsRow_form hown13
           have HO13 := Lib.hid hown13
           have HB13 := Lib.hid hb13
           clear hown13 hg13 hat13 hb13)
        | (at_builtin; refine wpL_app0 (k := 64) (o := ⟨some 116, _, _, _, _, _⟩) rfl (.tmp 115) (.const (.int .i64 64)) _ _ rfl E_by Try.underlying3 rfl rfl (by omega) HO13.out (HAB.out.2.2.2) (by rw [zeros_u8]; exact u8s_one _) (by have := HAB.out.2.1; unfold maxLen; omega) (by have := HAB.out.2.1; omega) (HB13.out.size) ?_
           intro v14 w14 hown14 hg14
           have hb14 : Below w12.heap.size w12 w14 := HB13.out.grown hg14 HB13.out.size (fun j e => (HO13.out.lt j e).1)
           rw [zeros_u8, show ([] : List Value) ++ u8s b = u8s b from rfl, ← u8s_app] at hown14
           obtain ⟨A14, c14, rfl, hr14⟩ := rd_owns hown14
           have HY14 := Lib.hid hr14
           have HX14 := Lib.hid ((HX12.out.below hb14).more hb14.size)
           have hb1014 := HB12.out.trans (hb14.mono HB12.out.size)
           have HN14 := Lib.hid ((HR10.out.below hb1014).more hb1014.size)
           have HW14 := Lib.hid ((HR11.out.below hb1014).more hb1014.size)
           have HB14 := Lib.hid (HB10.out.trans (hb1014.mono HB10.out.size))
           clear hown14 hg14 hr14 hb14 hb1014)
        | fail)
      have ha64 := HAB.out.1
      have hb64 := HAB.out.2.1
      have hn2n : (n2 : Int) ≤ 64 := by omega
      have hn3n : (n3 : Int) ≤ 64 := by omega
      go_loopw [119] (fun ir wr => ∃ (j : Nat), j ≤ 64 ∧ ir = .int .i64 (j : Int) ∧ Below w14.heap.size w14 wr) (fun ir _ => 64 - (intOf ir).toNat)
      case atStart => exact ⟨0, Nat.zero_le _, rfl, Below.refl _ _⟩
      case round =>
        obtain ⟨j, hj, rfl, hbj⟩ := hrel
        have HBJ := Lib.hid hbj
        clear hbj
        by_cases hlt : j < 64
        · obtain ⟨u, hu⟩ : ∃ u, (torn (d1.S 3) (pad a) (pad b) (kept1 ks 0) (kept1 ks 1))[j]? = some u := ⟨_, List.getElem?_eq_getElem (by have := HN14.out.len; rw [u8s_len] at this; omega)⟩
          obtain ⟨s0, hs0⟩ : ∃ u, (d1.S 3)[j]? = some u := ⟨_, List.getElem?_eq_getElem (by have := HW14.out.len; rw [u8s_len] at this; omega)⟩
          obtain ⟨x0, hx0⟩ : ∃ u, (a ++ List.replicate 64 0)[j]? = some u := ⟨_, List.getElem?_eq_getElem (by rw [List.length_append, List.length_replicate]; omega)⟩
          obtain ⟨y0, hy0⟩ : ∃ u, (b ++ List.replicate 64 0)[j]? = some u := ⟨_, List.getElem?_eq_getElem (by rw [List.length_append, List.length_replicate]; omega)⟩
          have hor : u = s0 ∨ u = x0 ∨ u = y0 := by
            have hs64 : (d1.S 3).length = 64 := by have := HW14.out.len; rwa [u8s_len] at this
            have h := torn_get _ _ _ _ _ j u hs64 (pad_len a (by have := HL.out.1; omega)) (pad_len b (by have := HL.out.2; omega)) (kept1_le ks 0) (kept1_le ks 1) hu
            rcases h with h | h | h
            · exact .inl (Option.some.inj (h.symm.trans hs0))
            · exact .inr (.inl (Option.some.inj (((pad_get a j hlt).trans h).symm.trans hx0)))
            · exact .inr (.inr (Option.some.inj (((pad_get b j hlt).trans h).symm.trans hy0)))
          obtain ⟨bn, on, rfl, hbn, kn0, _⟩ := byte_at HN14.out hu
          obtain ⟨bs0, os0, es0, hbs, ks0, _⟩ := byte_at HW14.out hs0
          obtain ⟨bx, ox, rfl, hbx, kx0, _⟩ := byte_at HX14.out hx0
          obtain ⟨by_, oy, rfl, hby_, ky0, _⟩ := byte_at HY14.out hy0
          cases es0
          have hor' : u.toNat = s0.toNat ∨ u.toNat = x0.toNat ∨ u.toNat = y0.toNat := hor.imp (congrArg _) (Or.imp (congrArg _) (congrArg _))
          generalize u.toNat = un at *
          generalize s0.toNat = sn at *
          generalize x0.toNat = xn at *
          generalize y0.toNat = yn at *
          have HKN := Lib.hid kn0
          have HKS := Lib.hid ks0
          have HKX := Lib.hid kx0
          have HKY := Lib.hid ky0
          have HLN := Lib.hid hbn
          have HLS := Lib.hid hbs
          have HLX := Lib.hid hbx
          have HLY := Lib.hid hby_
          have HLT := Lib.hid hlt
          have hj63 : (j : Int) < 64 := by omega
          have hj64a : (j : Int) < (n2 : Int) + 64 := by omega
          have hj64b : (j : Int) < (n3 : Int) + 64 := by omega
          have hj64c : j < n2 + 64 := by omega
          have hj64d : j < n3 + 64 := by omega
          have hlt64 : j < 64 := hlt
          clear kn0 ks0 kx0 ky0 hbn hbs hbx hby_ hor hu hs0 hx0 hy0 hlt
          by_cases f1 : un = sn
          · subst f1
            clear hor'
            go_wp2
            refine wp_segs [] [0, 1, 2, 3, 4, 5, 6, 7, 8, 9, 10, 11, 12, 13, 14, 15, 16, 17, 18, 19, 20, 21, 22, 23, 24, 25, 26, 27, 28, 29, 30] (fun x => Below w14.heap.size w14 x) (by kernel_rfl) (by kernel_rfl) (fun d _ _ _ _ h => by cases d <;> exact h) HBJ.out.drew ?_
            intro f hf
            have m0 := fun z => ((hf z).cell (p := ⟨bn, _, none⟩) HLN.out).trans HKN.out
            have m1 := fun z => ((hf z).cell (p := ⟨bw, _, none⟩) HLS.out).trans HKS.out
            have m2 := fun z => ((hf z).cell (p := ⟨bx, _, none⟩) HLX.out).trans HKX.out
            have m3 := fun z => ((hf z).cell (p := ⟨by_, _, none⟩) HLY.out).trans HKY.out
            simp only [pickI, Option.toList_some, List.cons_append, List.nil_append, List.getElem?_toArray, List.getElem?_cons_succ, List.getElem?_cons_zero]
            repeat (go_big_quiet_step (fail))
            refine wpQuiet_nil ?_
            clear m0 m1 m2 m3 hf f
            go_wp2
            go_roundw
            case rel => exact ⟨j + 1, by have := HLT.out; omega, by go_num, HBJ.out.drew⟩
            case measure => have := HLT.out; simp [intOf]; omega
          · have g1 : (un == sn) = false := by simpa using f1
            have g1i : ((un : Int) == (sn : Int)) = false := by simp; omega
            have g1a : decide (un = sn) = false := by simpa using f1
            have g1b : ((un : Int) != (sn : Int)) = true := by simp; omega
            have g1c : (un != sn) = true := by simpa using f1
            have g1d : ¬ (un : Int) = (sn : Int) := by omega
            by_cases f2 : un = xn
            · subst f2
              clear hor'
              go_wp2
              refine wp_segs [] [0, 1, 2, 3, 4, 5, 6, 7, 8, 9, 10, 11, 12, 13, 14, 15, 16, 17, 18, 19, 20, 21, 22, 23, 24, 25, 26, 27, 28, 29, 30] (fun x => Below w14.heap.size w14 x) (by kernel_rfl) (by kernel_rfl) (fun d _ _ _ _ h => by cases d <;> exact h) HBJ.out.drew ?_
              intro f hf
              have m0 := fun z => ((hf z).cell (p := ⟨bn, _, none⟩) HLN.out).trans HKN.out
              have m1 := fun z => ((hf z).cell (p := ⟨bw, _, none⟩) HLS.out).trans HKS.out
              have m2 := fun z => ((hf z).cell (p := ⟨bx, _, none⟩) HLX.out).trans HKX.out
              have m3 := fun z => ((hf z).cell (p := ⟨by_, _, none⟩) HLY.out).trans HKY.out
              simp only [pickI, Option.toList_some, List.cons_append, List.nil_append, List.getElem?_toArray, List.getElem?_cons_succ, List.getElem?_cons_zero]
              repeat (go_big_quiet_step (fail))
              refine wpQuiet_nil ?_
              clear m0 m1 m2 m3 hf f
              go_wp2
              go_roundw
              case rel => exact ⟨j + 1, by have := HLT.out; omega, by go_num, HBJ.out.drew⟩
              case measure => have := HLT.out; simp [intOf]; omega
            · have g2 : (un == xn) = false := by simpa using f2
              have g2i : ((un : Int) == (xn : Int)) = false := by simp; omega
              have g2a : decide (un = xn) = false := by simpa using f2
              have g2b : ((un : Int) != (xn : Int)) = true := by simp; omega
              have g2c : (un != xn) = true := by simpa using f2
              have g2d : ¬ (un : Int) = (xn : Int) := by omega
              obtain rfl : un = yn := by omega
              clear hor'
              go_wp2
              refine wp_segs [] [0, 1, 2, 3, 4, 5, 6, 7, 8, 9, 10, 11, 12, 13, 14, 15, 16, 17, 18, 19, 20, 21, 22, 23, 24, 25, 26, 27, 28, 29, 30] (fun x => Below w14.heap.size w14 x) (by kernel_rfl) (by kernel_rfl) (fun d _ _ _ _ h => by cases d <;> exact h) HBJ.out.drew ?_
              intro f hf
              have m0 := fun z => ((hf z).cell (p := ⟨bn, _, none⟩) HLN.out).trans HKN.out
              have m1 := fun z => ((hf z).cell (p := ⟨bw, _, none⟩) HLS.out).trans HKS.out
              have m2 := fun z => ((hf z).cell (p := ⟨bx, _, none⟩) HLX.out).trans HKX.out
              have m3 := fun z => ((hf z).cell (p := ⟨by_, _, none⟩) HLY.out).trans HKY.out
              simp only [pickI, Option.toList_some, List.cons_append, List.nil_append, List.getElem?_toArray, List.getElem?_cons_succ, List.getElem?_cons_zero]
              repeat (go_big_quiet_step (fail))
              refine wpQuiet_nil ?_
              clear m0 m1 m2 m3 hf f
              go_wp2
              go_roundw
              case rel => exact ⟨j + 1, by have := HLT.out; omega, by go_num, HBJ.out.drew⟩
              case measure => have := HLT.out; simp [intOf]; omega
        · obtain rfl : j = 64 := by omega
          go_wp2_with (first
            | (go_at_call 8; refine (dlives _).mono ?_; rintro e w9 ⟨rfl, hb9⟩)
            | fail)
          go_ret
          have hb := HB14.out.trans (HBJ.out.mono HB14.out.size)
          exact ⟨rfl, hb.trans (hb9.mono hb.size)⟩
namespace deviceTorn
open Go.ChangeShapes Go.WideShapes Go.ChangeAt
set_option maxRecDepth 100000 in
theorem lifted (os : Os) (started : os.Started) (H : Type) (enc : TypeId × Value → H) :
    ReturnsInHanded {} Try.checked os 4 .any (Rows.deviceTornSpec.pre6 enc Try.prog Try.f4 Rows.deviceTornRow.domain false) (Rows.deviceTornSpec.post enc Try.prog Try.f4 false true false false) := by
  refine returnsInHanded_of_change (C := Try.checked) own started (by kernel_rfl) Try.func4
    (ChangeSpec.witness6 (enc := enc) (C := Try.checked) false ⟨#[], #[.slice none 0 0, .slice none 0 0, .slice none 0 0, .slice none 0 0], []⟩ 8 (by kernel_rfl) (by kernel_rfl) (by kernel_rfl) (by kernel_rfl)) ?_
  intro W base args ds gs before hval0 hW _ _
  have hval : ∀ (j : Nat) t v, Try.f4.params[j]? = some t → args[j]? = some v → Value.okWide Try.prog W .any base t v := hval0
  have hW' := hW
  obtain ⟨p, q, hA0, hV, rfl, hfz, hnd⟩ := hW
  have hA : DataW.TrodAll enc Try.prog W 0 (fun _ => true) true Try.f4.params.toList args.toList ds p := hA0
  rw [Try.params4] at hA hval
  obtain ⟨v0, vs0, d0, ds0, p0, q0, hargs, rfl, rfl, h0, r0⟩ := trodAll_cons hA
  obtain ⟨v1, vs1, d1, ds1, p1, q1, rfl, rfl, rfl, h1, r1⟩ := trodAll_cons r0
  obtain ⟨v2, vs2, d2, ds2, p2, q2, rfl, rfl, rfl, h2, r2⟩ := trodAll_cons r1
  obtain ⟨v3, vs3, d3, ds3, p3, q3, rfl, rfl, rfl, h3, r3⟩ := trodAll_cons r2
  obtain ⟨rfl, rfl, rfl⟩ := trodAll_nil r3
  obtain rfl : args = #[v0, v1, v2, v3] := by cases args; simp_all
  obtain ⟨rfl, rfl⟩ := trodVars_none hV
  have k0 := h0
  have lt0 : ∀ x ∈ p0, x.block < W.heap.size := by obtain ⟨m, hm⟩ := k0; exact DataW.trod_lt m _ _ _ hm
  obtain ⟨a0, n0, c0, l0, rfl, w0⟩ := dec_ops Try.underlying22 Try.underlying33 (by kernel_rfl) (by kernel_rfl) Try.underlying3 Try.underlying3 Try.underlying3 Try.underlying31 Try.underlying5 (by kernel_rfl) Try.underlying23 Try.underlying3 (by kernel_rfl) (hval 0 22 v0 rfl rfl) h0
  have k1 := h1
  have lt1 : ∀ x ∈ p1, x.block < W.heap.size := by obtain ⟨m, hm⟩ := k1; exact DataW.trod_lt m _ _ _ hm
  obtain ⟨a1, n1, c1, l1, rfl, w1⟩ := dec_bytes Try.underlying31 Try.underlying5 (by kernel_rfl) (hval 1 31 v1 rfl rfl) h1
  have k2 := h2
  have lt2 : ∀ x ∈ p2, x.block < W.heap.size := by obtain ⟨m, hm⟩ := k2; exact DataW.trod_lt m _ _ _ hm
  obtain ⟨a2, n2, c2, l2, rfl, w2⟩ := dec_bytes Try.underlying31 Try.underlying5 (by kernel_rfl) (hval 2 31 v2 rfl rfl) h2
  have k3 := h3
  have lt3 : ∀ x ∈ p3, x.block < W.heap.size := by obtain ⟨m, hm⟩ := k3; exact DataW.trod_lt m _ _ _ hm
  obtain ⟨a3, n3, c3, l3, rfl, w3, b3⟩ := dec_nums (k := .i64) Try.underlying23 Try.underlying3 (by kernel_rfl) (hval 3 23 v3 rfl rfl) h3
  clear hA0 hval0
  refine (deviceTorn_walk w0 a1 n1 c1 l1 w1 a2 n2 c2 l2 w2 a3 n3 c3 l3 w3 b3).mono fun e W' ⟨he, bel⟩ => ?_
  subst he
  exact ⟨_, rfl, _, _, _, [], _, [], hW', trodAll_mk1 (shut_bool Try.underlying4 _), (trodAll_cons_mk (Below.trod laidOut (by kernel_rfl) (of_decide_eq_true (by kernel_rfl)) k0 bel lt0) (trodAll_cons_mk (Below.trod laidOut (by kernel_rfl) (of_decide_eq_true (by kernel_rfl)) k1 bel lt1) (trodAll_cons_mk (Below.trod laidOut (by kernel_rfl) (of_decide_eq_true (by kernel_rfl)) k2 bel lt2) (trodAll_cons_mk (Below.trod laidOut (by kernel_rfl) (of_decide_eq_true (by kernel_rfl)) k3 bel lt3) trodAll_mk0)))), rfl, bel.frame _, fun h => by cases h⟩

theorem over : Rows.deviceTornRow.holds Try.pinned (OpenSpec.ofChange Rows.deviceTornSpec) :=
  OpenClaim.holds_of_wide 4 Try.f4 rfl rfl rfl rfl rfl rfl rfl ⟨rfl, rfl, rfl, rfl, rfl⟩ rfl rfl rfl rfl rfl (by kernel_rfl) Try.func4 (by kernel_rfl)
    (of_decide_eq_true (by kernel_rfl)) (by unfold Func.isWrapper; first | (rw [if_pos (by decide +kernel)]; kernel_rfl) | (rw [if_neg (by decide +kernel)]; exact ⟨rfl, rfl⟩))
    (fun os started H enc _ => lifted os started H enc)
/-- The given statement. -/
theorem proved : Rows.DeviceTornSaid := over
end deviceTorn

end Go.Proofs.Ytdmcbojncgdccaa

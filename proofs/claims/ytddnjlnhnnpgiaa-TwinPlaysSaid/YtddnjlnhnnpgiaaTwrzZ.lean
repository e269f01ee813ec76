/- The chapter's example of layer 8. Both devices, and a twin on each, through the law's calls. -/
import Derived.Test.YtddnjlnhnnpgiaaTwlZ
import Derived.Test.YtddnjlnhnnpgiaaTwrd
namespace Go.Proofs.Ytddnjlnhnnpgiaa
set_option maxRecDepth 20000
open Go.RowKit

theorem dl_new (n : Nat) (w : World) (h1 : 1 ≤ n) (hn : n ≤ 65536) : Calls Try.prog 7 #[.int .i64 (n : Int)] w fun e w' => ∃ g, e = .returned (.pointer (some ⟨g, 0, none⟩)) ∧ Dl w w' w.heap.size g 0 (Dv.new n) := by
  refine (new_good n w h1 hn).mono ?_
  rintro e w' ⟨F, g, rfl, ⟨bs, bl, v, k, hD, hk, hF⟩, hb⟩
  have hk' : k + (Dv.new n).ws.length ≤ 0 := hk
  exact ⟨g, rfl, fun i => w.heap.size ≤ i, ⟨bs, bl, v, k, hD, hk', Nat.le_refl _, fun i hi => (hD.foot_lt hi).1⟩, fun i hi => hi, hb⟩
section
variable {w W : World} {B g T : Nat}
theorem rd_one1 (W : World) (x : UInt8) : Rd (W.alloc (.cells #[.int .u8 (x.toNat : Int)] 5 (1, 2))) (W.alloc (.cells #[.int .u8 (x.toNat : Int)] 5 (1, 2))).heap.size 1 (some ⟨W.heap.size, 0, none⟩) 1 1 (u8s [x]) := Rd.lit W #[.int .u8 (x.toNat : Int)] 5 rfl (by decide) (by simp)
theorem bel_one (W : World) (o : Obj) : Below W.heap.size W (W.alloc o) := (Below.refl _ _).alloc (Nat.le_refl _) _
theorem xs1 (h : Tl w W B g T 0 (Dv.new 9) xT0) : Calls Try.prog 13 #[.pointer (some ⟨T, 0, none⟩), .slice (some ⟨W.heap.size, 0, none⟩) 1 1] (W.alloc (.cells #[.int .u8 97] 5 (1, 2))) fun e w' => e = .returned (.int .i64 0) ∧ Tl w w' B g T 80 xD1 xT1 := by
  rw [xT0_is] at h
  have h2 := tl_save (h.below (bel_one W (.cells #[.int .u8 97] 5 (1, 2)))) (by decide) (some ⟨W.heap.size, 0, none⟩) 1 1 [97] (rd_one1 W 97) (by decide) (by decide) (by decide) (by decide) (by decide) (by decide) (by decide) (by decide) (by decide) (by decide) (by decide)
  rw [show (⟨1, 2, 0, 0, [], 1⟩ : Tv).base + (⟨1, 2, 0, 0, [], 1⟩ : Tv).free * (⟨1, 2, 0, 0, [], 1⟩ : Tv).size = 1 from by decide, xD1_e] at h2
  exact h2
theorem xD1_n : xD1.n = 9 := by kernel_rfl
theorem xD2_n : xD2.n = 9 := by kernel_rfl
theorem xs2 (h : Tl w W B g T 80 xD1 xT1) : Calls Try.prog 13 #[.pointer (some ⟨T, 0, none⟩), .slice (some ⟨W.heap.size, 0, none⟩) 1 1] (W.alloc (.cells #[.int .u8 98] 5 (1, 2))) fun e w' => e = .returned (.int .i64 0) ∧ Tl w w' B g T 160 xD2 xT2 := by
  have h2 := tl_save (h.below (bel_one W (.cells #[.int .u8 98] 5 (1, 2)))) (by decide) (some ⟨W.heap.size, 0, none⟩) 1 1 [98] (rd_one1 W 98) (by decide) (by decide) (by decide) (by decide) (by decide) (by decide) (by decide) (by decide) (by decide) (by decide) (by rw [xD1_n]; decide)
  rw [show xT1.base + xT1.free * xT1.size = 3 from by decide, show xT1.next = 2 from rfl, xD2_e] at h2
  exact h2
theorem xs3 (h : Tl w W B g T 160 xD2 xT2) : Calls Try.prog 13 #[.pointer (some ⟨T, 0, none⟩), .slice (some ⟨W.heap.size, 0, none⟩) 1 1] (W.alloc (.cells #[.int .u8 99] 5 (1, 2))) fun e w' => e = .returned (.int .i64 0) ∧ Tl w w' B g T 240 xD3 xT3 := by
  have h2 := tl_save (h.below (bel_one W (.cells #[.int .u8 99] 5 (1, 2)))) (by decide) (some ⟨W.heap.size, 0, none⟩) 1 1 [99] (rd_one1 W 99) (by decide) (by decide) (by decide) (by decide) (by decide) (by decide) (by decide) (by decide) (by decide) (by decide) (by rw [xD2_n]; decide)
  rw [show xT2.base + xT2.free * xT2.size = 1 from by decide, show xT2.next = 3 from rfl, xD3_e] at h2
  exact h2
theorem xlast (h : Tl w W B g T 240 xD3 xT3) : Calls Try.prog 19 #[.pointer (some ⟨T, 0, none⟩)] W fun e w' => ∃ A c, e = .returned (.tuple #[.slice A 1 c, .bool true]) ∧ Rd w' w'.heap.size 1 A 1 c (u8s [99]) ∧ Below W.heap.size W w' := twlast_some h.tw (by decide) (by decide)
theorem xnumber (h : Tl w W B g T 240 xD3 xT3) : Calls Try.prog 21 #[.pointer (some ⟨T, 0, none⟩)] W fun e w' => e = .returned (.int .u64 3) ∧ W = w' := twnumber_any h.tw
theorem xnext (h : Tl w W B g T 240 xD3 xT3) : Calls Try.prog 22 #[.pointer (some ⟨T, 0, none⟩)] W fun e w' => e = .returned (.int .u64 4) ∧ W = w' := twnext_any h.tw
def xB : List UInt8 := xD3.bytes 1 1
theorem xB_12 : xB[12]? = some 99 := by kernel_rfl
theorem xread (h : Tl w W B g T 240 xD3 xT3) : Calls Try.prog 24 #[.pointer (some ⟨g, 0, none⟩), .int .i64 1, .int .i64 1] W fun e w' => ∃ q c, e = .returned (.tuple #[.slice (some ⟨q, 0, none⟩) 64 c, .int .i64 0]) ∧ w'.cell? ⟨q, 12, none⟩ = some (.int .u8 99) ∧ Below W.heap.size W w' := by
  obtain ⟨N, k1, _⟩ := h
  refine (own_read k1 xD3_d 1 1 (by decide) (by rw [xD3_n]; decide)).mono ?_
  rintro e w4 ⟨v4, rfl, hown, hb⟩
  rcases hown.2 with ⟨e1, e2⟩ | ⟨q, cap, cur, rfl, _⟩
  · omega
  · have c0 := hown.cells (g := q) rfl 12 (u8 99) (by rw [u8s, List.getElem?_map]; show Option.map u8 (xB[12]?) = _; rw [xB_12]; rfl)
    rw [addOff] at c0
    exact ⟨q, cap, rfl, c0, hb⟩
end

set_option maxHeartbeats 4000000 in
theorem lives8 (w : World) : Calls Try.prog 6 #[] w fun e w' => e = .returned (.bool true) ∧ Below w.heap.size w w' := by
  have HNew := Lib.hid (dl_new 9 w (by omega) (by omega))
  have kc := fun (w : World) (C : Array Value) (n c : Nat) => Lib.run_convert_bytes_const (P := Try.prog) w 38 5 C n c Try.underlying38 Try.underlying5
  have ks : (str [99]).toList = [99] := by kernel_rfl
  go_enter Try.func6, Try.ntmps6
  go_wp2_with (first
    | (go_at_call 7; refine HNew.out.mono ?_; rintro e w1 ⟨g, rfl, hD0⟩)
    | (go_at_call 10; refine (dl_open hT3.dl xD3_d 1 2 (by decide) (by decide) (by decide) (by rw [xD3_n]; decide)).mono ?_; rintro e w6 ⟨U, rfl, hU⟩; have hU : Tl w w6 w.heap.size g U 240 xD3 (openTv 1 2 (xD3.bytes 1 4)) := hU; rw [xT_is] at hU)
    | (go_at_call 10; refine (dl_open hD0 rfl 1 2 (by decide) (by decide) (by decide) (by decide)).mono ?_; rintro e w2 ⟨T, rfl, hT0⟩; have hT0 : Tl w w2 w.heap.size g T 0 (Dv.new 9) xT0 := hT0)
    | (go_at_call 13; refine (xs3 hT2).mono ?_; rintro e w5 ⟨rfl, hT3⟩)
    | (go_at_call 13; refine (xs2 hT1).mono ?_; rintro e w4 ⟨rfl, hT2⟩)
    | (go_at_call 13; refine (xs1 hT0).mono ?_; rintro e w3 ⟨rfl, hT1⟩)
    | (go_at_call 19; refine (xlast hU).mono ?_; rintro e w7 ⟨A7, c7, rfl, hr7, hb7⟩; have hU7 := hU.below hb7)
    | (go_at_call 24; refine (xread hU7).mono ?_; rintro e w8 ⟨q8, c8, rfl, hc8, hb8⟩; have hU8 := hU7.below hb8
       have hcv := run_str (l := [99]) Try.underlying38 Try.underlying5 Try.underlying9 ((hr7.below hb8).more hb8.size))
    | (go_at_call 21; refine (xnumber hU8).mono ?_; rintro e w9 ⟨rfl, rfl⟩)
    | (go_at_call 22; refine (xnext hU8).mono ?_; rintro e w9 ⟨rfl, rfl⟩)
    | fail)
  go_ret
  exact ⟨rfl, hU8.bel⟩

end Go.Proofs.Ytddnjlnhnnpgiaa

namespace Go.Proofs.Ytddnjlnhnnpgiaa
set_option maxRecDepth 20000
open Go.RowKit

theorem Dev.lowz {w : World} {B B' g bs bl k : Nat} {v : Value} {d : Dv} (h : Dev w B g bs bl v k d) (hB : B' ≤ B) : Dev w B' g bs bl v k d := ⟨h.row, h.safe, h.last, ownsRow_low h.waits hB, h.gs, h.gl, h.sl, h.vg, Nat.le_trans hB h.hg, Nat.le_trans hB h.hs, Nat.le_trans hB h.hl, h.ok⟩
theorem Rdev.lowz {w : World} {B B' q : Nat} {vs vl : Value} {r : Rv} (h : Rdev w B q vs vl r) (hB : B' ≤ B) : Rdev w B' q vs vl r := ⟨h.row, ownsRow_low h.safe hB, ownsRow_low h.loose hB, h.qs, h.ql, h.sl, Nat.le_trans hB h.hq, h.ok⟩
/-- The two devices of the law, as they are made. -/
theorem dp_new {w w3 w4 : World} {g : Nat} {F3 : Nat → Prop} (hD : Dvc w3 w.heap.size g F3 (Dv.new 20)) (hb3 : Below w.heap.size w w3) (hR : Rdev w4 w3.heap.size w3.heap.size (.slice none 0 0) (.slice none 0 0) (Rv.new 20)) (hb : Below w3.heap.size w3 w4) : DP w w4 w.heap.size g w3.heap.size 0 (Dv.new 20) := by
  obtain ⟨bs, bl, v, k, hd, hk, _⟩ := hD
  have hz := hb3.size
  have hz4 := hb.size
  refine ⟨fun i => w.heap.size ≤ i ∧ i < w4.heap.size, ⟨bs, bl, v, k, _, _, Rv.new 20, hd.below hb, hk, Nat.le_refl _, hR.lowz hz, Nat.le_refl _, Nat.le_refl _, fun i hi hf => ?_, fun i hi => ?_, sim_new 20⟩, fun i hi => hi, hb3.trans (hb.mono hz)⟩
  · have := (hd.foot_lt hi).2
    have := (hR.foot_lt hf).1
    omega
  · rcases hi with hi | hi
    · have := hd.foot_lt hi
      omega
    · have := hR.foot_lt hi
      omega
theorem PairS.tight {w : World} {B g q M : Nat} {F : Nat → Prop} {d : Dv} (h : PairS w B g q F M d) : PairS w B g q (fun i => F i ∧ i < w.heap.size) M d := by
  obtain ⟨bs, bl, v, k, vs, vl, r, h1, h2, h3, h4, h5, h6, h7, h8, h9⟩ := h
  exact ⟨bs, bl, v, k, vs, vl, r, h1, h2, h3, h4, h5, h6, h7, fun i hi => ⟨h8 i hi, hi.elim (fun h => (h1.foot_lt h).2) (fun h => (h4.foot_lt h).2)⟩, h9⟩
section
variable {w W W' : World} {B g q T U M M' m c : Nat} {d : Dv} {t : Tv} {A : Option Addr}
theorem TP.mono (h : TP w W B g q T U M d t A m c) (hM : M ≤ M') : TP w W B g q T U M' d t A m c := by
  obtain ⟨F, h1, h2⟩ := h
  exact ⟨F, h1.mono hM (fun _ h => h), h2⟩
theorem TP.saved {X : Nat → Prop} {d' : Dv} (h : TP w W B g q T U M d t A m c) (hM : M ≤ 80000) (htb : TB d t) (hb : Below W.heap.size W W') (hX : ∀ i, X i → W.heap.size ≤ i ∧ i < W'.heap.size) (A' : Option Addr) (n' c' : Nat) (l : List UInt8) (hl : Rd W' w.heap.size 1 A' n' c' (u8s l)) (hn : n' ≤ 3000) (hroom : n' ≤ t.room) (hm0 : 0 < t.next)
    (hd' : d' = (d.save (t.base + t.free * t.size) t.next l).1) :
    ∃ E, Calls Try.prog 13 #[.pointer (some ⟨T, 0, none⟩), .slice A' n' c'] W' fun e w1 => e = .returned (.int .i64 E) ∧ Keeps (Off X w) W' w1 ∧
      Calls Try.prog 14 #[.pointer (some ⟨U, 0, none⟩), .slice A' n' c'] w1 fun e w2 => e = .returned (.int .i64 E) ∧ Keeps (Off X w) w1 w2 ∧ (∃ A2 m2 c2, TP w w2 B g q T U (M + 160) d' (t.after l E) A2 m2 c2) ∧ TB d' (t.after l E) := by
  subst hd'
  obtain ⟨r, hmp, hsim, hok⟩ := h.mp hb hX
  have hll : l.length = n' := by have := hl.len; rwa [u8s_len] at this
  have hlw : Rd w w.heap.size 1 A' n' c' (u8s l) := hl.keep fun b o hbb => ((h.bel.trans (hb.mono h.bel.size)).cell (p := ⟨b, o, none⟩) hbb).symm
  have hin := tb_in htb l (by rw [hll]; exact hroom)
  obtain ⟨s1, s2⟩ := hsim.save (t.base + t.free * t.size) t.next l hin.2.2 hin.1 hin.2.1
  refine ⟨(d.save (t.base + t.free * t.size) t.next l).2, ?_⟩
  refine (mp_prog hmp (by omega) htb A' n' c' l hl hn hroom hm0).mono ?_
  rintro e w1 ⟨rfl, hmp1, hk1⟩
  refine ⟨rfl, hk1, ?_⟩
  have htb1 : TB (d.save (t.base + t.free * t.size) t.next l).1 t := htb.dev (Dv.save_n d _ _ _)
  have hbw : Below w.heap.size w w1 := by
    obtain ⟨F1, F2, k1, k2, k3, k4, k5, k6, k7, k8, k9, k10, k11, kX, k12⟩ := hmp1
    exact k12
  refine (mp_ref hmp1 (by omega) htb1 A' n' c' l (hlw.below hbw) hn hroom hm0).mono ?_
  rintro e w2 ⟨rfl, ⟨A2, m2, c2, hmp2⟩, hk2⟩
  rw [← s2] at hmp2 ⊢
  refine ⟨rfl, hk2, ⟨A2, m2, c2, ?_⟩, tb_after htb1 l hin.2.2 hm0 _⟩
  have := hmp2.tp s1
  exact this.mono (by omega)
theorem TP.done (h : TP w W B g q T U M d t A m c) (hM : M ≤ 80000) (htb : TB d t) (o : Opd) (ho : o.Reads w) (hbn : o.bn ≤ 1000) (hkn : o.kn ≤ 1000) :
    Calls Try.prog 16 #[.pointer (some ⟨g, 0, none⟩), .pointer (some ⟨q, 0, none⟩), .agg o.cells] W fun e w' => e = .returned (.bool true) ∧ TP w w' B g q T U (M + 64) (d.op o) t A m c ∧ TB (d.op o) t := by
  obtain ⟨F, h1, h2, h3, h4, h5, h6, h7, h8, h9, h10⟩ := h
  have hrw : o.Reads W := ⟨(ho.1.below h10).more h10.size, (ho.2.1.below h10).more h10.size, ho.2.2⟩
  have far : ∀ (n : Nat) (c : Nat) (A : Option Addr) (xs : List Value), Rd w w.heap.size 1 A n c xs → 0 < n → ∀ b i, A = some ⟨b, i, none⟩ → ¬ F b := by
    intro n c A xs hr h0 b i e hf
    obtain ⟨b', o', e', hb, _⟩ := hr.2.2.2 h0
    rw [e] at e'
    cases e'
    have := (h5 b hf).1
    omega
  refine (sdo_any h1 (by omega) o hrw hbn hkn (far _ _ _ _ ho.1) (far _ _ _ _ ho.2.1)).mono ?_
  rintro e w' ⟨rfl, hP, hK⟩
  have hz := hK.size
  have hTl := h2.lt
  have hUl := h3.lt
  refine ⟨rfl, ⟨_, hP.tight, hK.row h2 (fun hf => (h5 T hf).2.2.1 rfl), hK.row h3 (fun hf => (h5 U hf).2.2.2 rfl), (h4.stayn (fun h0 b o e hb => hK.block b hb (h6 h0 b o e).1)).more hz, fun i hi => ?_, fun h0 b o e => ?_, h7, h8, h9, h10.trans (hK.below h10.size (fun i hi => (h5 i hi).1))⟩, htb.dev (Dv.op_n d o)⟩
  · rcases hi with ⟨hi | hi, hlt⟩
    · have := h5 i hi
      exact ⟨this.1, hlt, this.2.2⟩
    · have := h10.size
      exact ⟨by omega, hlt, by omega, by omega⟩
  · obtain ⟨b', o', e', hb', _⟩ := h4.2.2.2 h0
    rw [e] at e'
    cases e'
    have := h6 h0 b o e
    exact ⟨fun hf => hf.1.elim this.1 (fun h => by omega), this.2⟩
end
end Go.Proofs.Ytddnjlnhnnpgiaa

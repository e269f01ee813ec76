/- Whether a twin has what the reference's has. twin.Open, whatever is asked. A device and the reference's, a twin on each. -/
import Derived.Test.YtddnjlnhnnpgiaaTwrpZ
import Derived.BigQuiet
namespace Go.Proofs.Ytddnjlnhnnpgiaa
set_option maxRecDepth 20000
open Go.RowKit

set_option maxHeartbeats 4000000 in
theorem like_any {w : World} {T U q m c : Nat} {g : Addr} {t : Tv} {A : Option Addr} (h : Tw w T (some g) t) (hu : Rtw w U q t A m c) (hr : Rd w w.heap.size 1 A m c (u8s t.text)) (hz : t.number = 0 → t.text = []) (hl : t.text.length ≤ 65536) (h0 : 0 ≤ t.size) (h1 : t.size ≤ 65536) :
    Calls Try.prog 15 #[.pointer (some ⟨T, 0, none⟩), .pointer (some ⟨U, 0, none⟩)] w fun e w' => e = .returned (.bool true) ∧ Below w.heap.size w w' := by
  have HL := Lib.hid (twlast_all h hz (by omega))
  have HH := Lib.hid h
  have HU := Lib.hid hu
  have HR := Lib.hid hr
  have HS := Lib.hid (And.intro h0 h1)
  clear h hu hr h0 h1
  go_enter Try.func15, Try.ntmps15
  go_upto_region 2 with (first
    | (go_at_call 19; refine HL.out.mono ?_; rintro e w1 ⟨A1, c1, rfl, hr1, hf1, hb1⟩)
    | fail)
  have hT := HH.out.below hb1
  have hU := HU.out.below hb1
  have c4 := hU.c4
  have c5 := hU.c5
  have c6 := hU.c6
  have s1 := fun z => run_str Try.underlying38 Try.underlying5 Try.underlying9 (hr1.drewN z)
  have s2 := fun z => run_str Try.underlying38 Try.underlying5 Try.underlying9 (((HR.out.below hb1).more hb1.size).drewN z)
  have k1 := Lib.hid (fun z : Nat => twnumber_any (w := w1.drewN z) hT)
  have k2 := Lib.hid (fun z : Nat => twnext_any (w := w1.drewN z) hT)
  have k3 := Lib.hid (fun z : Nat => twroom_any (w := w1.drewN z) hT HS.out.1 HS.out.2)
  have k4 := Lib.hid (fun z : Nat => rtroom_any (w := w1.drewN z) hU HS.out.1 HS.out.2)
  have HB := Lib.hid hb1
  clear hT hU hr1 hb1
  obtain ⟨b0, eb0⟩ : ∃ b, b = decide (0 < t.number) := ⟨_, rfl⟩
  rw [← eb0]
  have e1 : decide ((0 : Int) < (t.number : Int)) = b0 := by rw [eb0]; simp
  have e2 : decide (0 < t.number) = b0 := eb0.symm
  clear eb0
  go_big_quiet (first
    | (go_at_call 21; refine (k1.out _).mono ?_; rintro e w2 ⟨rfl, rfl⟩; exact ⟨rfl, _, rfl⟩)
    | (go_at_call 22; refine (k2.out _).mono ?_; rintro e w2 ⟨rfl, rfl⟩; exact ⟨rfl, _, rfl⟩)
    | (go_at_call 23; refine (k3.out _).mono ?_; rintro e w2 ⟨rfl, rfl⟩; exact ⟨rfl, _, rfl⟩)
    | (go_at_call 34; refine (k4.out _).mono ?_; rintro e w2 ⟨rfl, rfl⟩; exact ⟨rfl, _, rfl⟩)
    | fail)
  have hbq : Below w1.heap.size w1 (w1.drewN nq) := ⟨rfl, rfl, rfl, Nat.le_refl _, fun _ _ => rfl⟩
  have HBQ := Lib.hid (HB.out.trans (hbq.mono HB.out.size))
  clear hbq
  go_wp2_with (fail)
  go_ret
  exact ⟨rfl, HBQ.out⟩
end Go.Proofs.Ytddnjlnhnnpgiaa

namespace Go.Proofs.Ytddnjlnhnnpgiaa
set_option maxRecDepth 20000
open Go.RowKit

/-- No twin has places of no sector. -/
theorem twopen_few {w : World} (G : Option Addr) (base size : Int) (hsz : size < 1) (l : List UInt8) (E : Int) (hE : E = 0 ∨ E = 30)
    (HR : ∀ s : Int, s = IntKind.i64.wrap (2 * min size 65536) → Calls Try.prog 24 #[.pointer G, .int .i64 base, .int .i64 s] w (Gets w l E)) :
    Calls Try.prog 10 #[.pointer G, .int .i64 base, .int .i64 size] w fun e w' => e = .returned (.tuple #[.pointer none, .int .i64 30]) ∧ Below w.heap.size w w' := by
  obtain ⟨s1, hs1⟩ : ∃ s, s = min size 65536 := ⟨_, rfl⟩
  have e2 : min size (65536 : Int) = s1 := hs1.symm
  obtain ⟨s2, hs2⟩ : ∃ s, s = IntKind.i64.wrap (2 * s1) := ⟨_, rfl⟩
  have e3 : IntKind.i64.wrap (2 * s1) = s2 := hs2.symm
  have e4 : (2 * s1 + 9223372036854775808) % 18446744073709551616 - 9223372036854775808 = s2 := by rw [hs2]; simp [IntKind.wrap, IntKind.signed, IntKind.bits]; split <;> omega
  have HRR := Lib.hid (HR s2 (by rw [hs2, hs1]))
  have q1 : decide (size < 1) = true := by simpa using hsz
  clear HR hs1 hs2
  rcases hE with rfl | rfl
  all_goals (
    go_enter Try.func10, Try.ntmps10
    go_wp2_with (first
      | (go_at_call 24; refine HRR.out.mono ?_; rintro e w1 ⟨A1, n1, c1, rfl, hr1, hb1⟩
         clear hr1)
      | fail)
    go_ret2
    exact ⟨rfl, hb1⟩)
/-- What is opened, whatever is asked. -/
theorem twopen_all {w : World} {B g M : Nat} {N : Nat → Prop} {d : Dv} (h : Own w B g N M d) (base size : Int) (_ : Key base) (hk2 : Key size) (hn : d.n ≤ 20) :
    Calls Try.prog 10 #[.pointer (some ⟨g, 0, none⟩), .int .i64 base, .int .i64 size] w fun e w' =>
      if d.down = true then e = .returned (.tuple #[.pointer none, .int .i64 50]) ∧ Below w.heap.size w w'
      else if 1 ≤ size ∧ 0 ≤ base ∧ base + 2 * size ≤ d.n then ∃ T, e = .returned (.tuple #[.pointer (some ⟨T, 0, none⟩), .int .i64 0]) ∧ w.heap.size ≤ T ∧ Tw w' T (some ⟨g, 0, none⟩) (openTv base size.toNat (d.bytes base (2 * size.toNat))) ∧ Below w.heap.size w w'
      else e = .returned (.tuple #[.pointer none, .int .i64 30]) ∧ Below w.heap.size w w' := by
  have ho := h.ok
  have hon := h.ok.n
  obtain ⟨bs, bl, v, k, hD, hrest⟩ := id h
  have hwr : ∀ y : Int, Key (IntKind.i64.wrap y) := fun y => by
    unfold Key
    simp [IntKind.wrap, IntKind.signed, IntKind.bits]
    split <;> omega
  by_cases h1 : d.down = true
  · simp only [if_pos h1]
    refine (twopen_refused (some ⟨g, 0, none⟩) base size 50 (by decide) (fun s hs => ?_)).mono ?_
    · exact read_down g base s w (by rw [← h1]; exact hD.c4)
    · rintro e w' ⟨rfl, rfl⟩
      exact ⟨rfl, Below.refl _ _⟩
  simp only [if_neg h1]
  have hdf : d.down = false := by simpa using h1
  by_cases h2 : 1 ≤ size ∧ 0 ≤ base ∧ base + 2 * size ≤ d.n
  · simp only [if_pos h2]
    obtain ⟨s, rfl⟩ : ∃ s : Nat, size = (s : Int) := ⟨size.toNat, by omega⟩
    simp only [Int.toNat_natCast]
    obtain ⟨k1, k2, k3⟩ := h2
    have hl := Dv.bytes_len ho base (2 * s)
    have hr := own_read h hdf base (2 * s) k2 (by omega)
    rw [show 64 * (2 * s) = 128 * s by omega] at hr hl
    exact twopen_ok ⟨g, 0, none⟩ base s (d.bytes base (2 * s)) (by omega) (by omega) hl hr
  · simp only [if_neg h2]
    by_cases h3 : size < 1
    · obtain ⟨s, hs⟩ : ∃ s, s = IntKind.i64.wrap (2 * min size 65536) := ⟨_, rfl⟩
      have hg := read_exact hD base s (by rw [hs]; exact hwr _)
      refine twopen_few (some ⟨g, 0, none⟩) base size h3 (d.gotB base s) (d.gotE base s) ?_ (fun s' hs' => ?_)
      · unfold Dv.gotE
        rw [if_neg h1]
        split
        · exact .inl rfl
        · exact .inr rfl
      · rw [hs', ← hs]
        exact hg
    · refine (twopen_refused (some ⟨g, 0, none⟩) base size 30 (by decide) (fun s hs => ?_)).mono ?_
      · refine read_out g d.n base s w hD.c0 (by rw [← hdf]; exact hD.c4) hon (by rw [hs]; exact (hwr _).2) ?_
        unfold withinB
        rw [decide_eq_false_iff_not]
        have he : s = 2 * min size 65536 := by
          rw [hs]
          simp [IntKind.wrap, IntKind.signed, IntKind.bits]
          omega
        omega
      · rintro e w' ⟨rfl, rfl⟩
        exact ⟨rfl, Below.refl _ _⟩
end Go.Proofs.Ytddnjlnhnnpgiaa

namespace Go.Proofs.Ytddnjlnhnnpgiaa
set_option maxRecDepth 20000
open Go.RowKit

theorem held_text (l : List UInt8) : (readOf l).2.1.length ≤ 65536 ∧ ((readOf l).1 = 0 → (readOf l).2.1 = []) := by
  by_cases h : (readOf l).2.2 = 0
  · have h2 : readOf l = ((readOf l).1, (readOf l).2.1, 0) := by rw [← h]
    have := read_back l _ _ h2
    exact ⟨this.2.2.1, fun e => by omega⟩
  · have h2 := read_err l h
    rw [h2]
    exact ⟨Nat.zero_le _, fun _ => rfl⟩
theorem open_facts (base : Int) (size : Nat) (l : List UInt8) : (openTv base size l).text.length ≤ 65536 ∧ ((openTv base size l).number = 0 → (openTv base size l).text = []) ∧ 0 ≤ (openTv base size l).place ∧ (openTv base size l).place ≤ 1 := by
  show (bestBy size l).2.2.length ≤ 65536 ∧ ((bestBy size l).2.1 = 0 → (bestBy size l).2.2 = []) ∧ 0 ≤ (bestBy size l).1 ∧ (bestBy size l).1 ≤ 1
  have h0 := held_text (l.take (64 * size))
  have h1 := held_text (l.drop (64 * size))
  unfold bestBy bestOf heldOf
  dsimp only
  split
  · exact ⟨h1.1, h1.2, by dsimp only; omega, by dsimp only; omega⟩
  · split
    · exact ⟨h0.1, h0.2, by dsimp only; omega, by dsimp only; omega⟩
    · exact ⟨Nat.zero_le _, fun _ => rfl, by dsimp only; omega, by dsimp only; omega⟩
/-- Both devices, alone. -/
def DP (w W : World) (B g q M : Nat) (d : Dv) : Prop := ∃ F : Nat → Prop, PairS W B g q F M d ∧ (∀ i, F i → w.heap.size ≤ i ∧ i < W.heap.size) ∧ Below w.heap.size w W
/-- Both devices, and a twin on each. -/
def TP (w W : World) (B g q T U M : Nat) (d : Dv) (t : Tv) (A : Option Addr) (m c : Nat) : Prop :=
  ∃ F : Nat → Prop, PairS W B g q F M d ∧ Tw W T (some ⟨g, 0, none⟩) t ∧ Rtw W U q t A m c ∧ Rd W W.heap.size 1 A m c (u8s t.text) ∧ (∀ i, F i → w.heap.size ≤ i ∧ i < W.heap.size ∧ i ≠ T ∧ i ≠ U)
    ∧ (0 < m → ∀ b o, A = some ⟨b, o, none⟩ → ¬ F b ∧ b ≠ T ∧ b ≠ U) ∧ T ≠ U ∧ w.heap.size ≤ T ∧ w.heap.size ≤ U ∧ Below w.heap.size w W
section
variable {w W W' : World} {B g q T U M M' m c : Nat} {d : Dv} {t : Tv} {A : Option Addr} {F : Nat → Prop}
theorem PairS.own (h : PairS W B g q F M d) : ∃ r, Own W B g F M d ∧ ROwn W B q F M r ∧ Sim d r ∧ d.Ok := by
  obtain ⟨bs, bl, v, k, vs, vl, r, h1, h2, h3, h4, h5, h6, h7, h8, h9⟩ := h
  exact ⟨r, ⟨bs, bl, v, k, h1, h2, h3, fun i hi => h8 i (.inl hi)⟩, ⟨vs, vl, h4, h5, h6, fun i hi => h8 i (.inr hi)⟩, h9, h1.ok⟩
theorem PairS.below (h : PairS W B g q F M d) (hb : Below W.heap.size W W') : PairS W' B g q F M d := by
  obtain ⟨bs, bl, v, k, vs, vl, r, h1, h2, h3, h4, h5, h6, h7, h8, h9⟩ := h
  exact ⟨bs, bl, v, k, vs, vl, r, h1.below hb, h2, h3, h4.below hb, h5, h6, h7, h8, h9⟩
theorem TP.dp (h : TP w W B g q T U M d t A m c) : DP w W B g q M d := by
  obtain ⟨F, h1, _, _, _, h5, _, _, _, _, h10⟩ := h
  exact ⟨F, h1, fun i hi => ⟨(h5 i hi).1, (h5 i hi).2.1⟩, h10⟩
theorem DP.bel (h : DP w W B g q M d) : Below w.heap.size w W := by obtain ⟨_, _, _, h⟩ := h; exact h
theorem TP.bel (h : TP w W B g q T U M d t A m c) : Below w.heap.size w W := h.dp.bel
theorem DP.below (h : DP w W B g q M d) (hb : Below W.heap.size W W') : DP w W' B g q M d := by
  obtain ⟨F, h1, h2, h3⟩ := h
  exact ⟨F, h1.below hb, fun i hi => ⟨(h2 i hi).1, Nat.lt_of_lt_of_le (h2 i hi).2 hb.size⟩, h3.trans (hb.mono h3.size)⟩
theorem TP.below (h : TP w W B g q T U M d t A m c) (hb : Below W.heap.size W W') : TP w W' B g q T U M d t A m c := by
  obtain ⟨F, h1, h2, h3, h4, h5, h6, h7, h8, h9, h10⟩ := h
  exact ⟨F, h1.below hb, h2.below hb, h3.below hb, (h4.below hb).more hb.size, fun i hi => ⟨(h5 i hi).1, Nat.lt_of_lt_of_le (h5 i hi).2.1 hb.size, (h5 i hi).2.2⟩, h6, h7, h8, h9, h10.trans (hb.mono h10.size)⟩
theorem tp_like (h : TP w W B g q T U M d t A m c) (hz : t.number = 0 → t.text = []) (hl : t.text.length ≤ 65536) (h0 : 0 ≤ t.size) (h1 : t.size ≤ 65536) :
    Calls Try.prog 15 #[.pointer (some ⟨T, 0, none⟩), .pointer (some ⟨U, 0, none⟩)] W fun e w' => e = .returned (.bool true) ∧ TP w w' B g q T U M d t A m c ∧ Below W.heap.size W w' := by
  have hh := h
  obtain ⟨F, k1, k2, k3, k4, _⟩ := h
  refine (like_any k2 k3 k4 hz hl h0 h1).mono ?_
  rintro e w' ⟨rfl, hb⟩
  exact ⟨rfl, hh.below hb, hb⟩
set_option maxHeartbeats 4000000 in
/-- Both refuse alike. -/
theorem dp_refused (h : DP w W B g q M d) (hM : M ≤ 100000) (base size : Int) (hk : Key base) (hk2 : Key size) (hn : d.n ≤ 20) (hno : ¬ (d.down = false ∧ 1 ≤ size ∧ 0 ≤ base ∧ base + 2 * size ≤ d.n)) :
    Calls Try.prog 9 #[.pointer (some ⟨g, 0, none⟩), .pointer (some ⟨q, 0, none⟩), .int .i64 base, .int .i64 size] W fun e w' => e = .returned (.tuple #[.pointer none, .pointer none, .bool false]) ∧ DP w w' B g q M d ∧ Below W.heap.size W w' := by
  obtain ⟨F, hP, hF, hB⟩ := h
  obtain ⟨r, hO, hR, hsim, hok⟩ := hP.own
  have HO := Lib.hid (twopen_all hO base size hk hk2 hn)
  have HR := Lib.hid (fun (V : World) (hb : Below W.heap.size W V) => rtopen_any hsim (hR.below hb) hok hM base size hk hk2 hn)
  have HDP := Lib.hid (show ∀ V, Below W.heap.size W V → DP w V B g q M d from fun V hb => DP.below ⟨F, hP, hF, hB⟩ hb)
  by_cases h1 : d.down = true
  · simp only [if_pos h1] at HO HR
    clear hP hF hB hO hR hsim hok hno
    go_enter Try.func9, Try.ntmps9
    go_wp2_with (first
      | (go_at_call 10; refine HO.out.mono ?_; rintro e w1 ⟨rfl, hb1⟩)
      | (go_at_call 11; refine (HR.out _ hb1).mono ?_; rintro e w2 ⟨rfl, rfl⟩)
      | fail)
    refine bodyPost_ret (results_tmp3 rfl _ _ _) rfl ?_
    exact ⟨rfl, HDP.out _ hb1, hb1⟩
  · simp only [if_neg h1] at HO HR
    have h2 : ¬ (1 ≤ size ∧ 0 ≤ base ∧ base + 2 * size ≤ d.n) := fun h => hno ⟨by simpa using h1, h⟩
    simp only [if_neg h2] at HO HR
    clear hP hF hB hO hR hsim hok hno
    go_enter Try.func9, Try.ntmps9
    go_wp2_with (first
      | (go_at_call 10; refine HO.out.mono ?_; rintro e w1 ⟨rfl, hb1⟩)
      | (go_at_call 11; refine (HR.out _ hb1).mono ?_; rintro e w2 ⟨rfl, rfl⟩)
      | fail)
    refine bodyPost_ret (results_tmp3 rfl _ _ _) rfl ?_
    exact ⟨rfl, HDP.out _ hb1, hb1⟩
set_option maxHeartbeats 4000000 in
/-- Both are opened. -/
theorem dp_open (h : DP w W B g q M d) (hM : M ≤ 100000) (base size : Int) (hk : Key base) (hk2 : Key size) (hn : d.n ≤ 20) (hdf : d.down = false) (h2 : 1 ≤ size ∧ 0 ≤ base ∧ base + 2 * size ≤ d.n) :
    Calls Try.prog 9 #[.pointer (some ⟨g, 0, none⟩), .pointer (some ⟨q, 0, none⟩), .int .i64 base, .int .i64 size] W fun e w' =>
      ∃ T U A m c, e = .returned (.tuple #[.pointer (some ⟨T, 0, none⟩), .pointer (some ⟨U, 0, none⟩), .bool true]) ∧ TP w w' B g q T U M d (openTv base size.toNat (d.bytes base (2 * size.toNat))) A m c ∧ Below W.heap.size W w' := by
  obtain ⟨F, hP, hF, hB⟩ := h
  obtain ⟨r, hO, hR, hsim, hok⟩ := hP.own
  have HO := Lib.hid (twopen_all hO base size hk hk2 hn)
  have HR := Lib.hid (fun (V : World) (hb : Below W.heap.size W V) => rtopen_any hsim (hR.below hb) hok hM base size hk hk2 hn)
  have h1 : ¬ d.down = true := by rw [hdf]; decide
  simp only [if_neg h1, if_pos h2] at HO HR
  have hof := open_facts base size.toNat (d.bytes base (2 * size.toNat))
  obtain ⟨t, ht⟩ : ∃ t, t = openTv base size.toNat (d.bytes base (2 * size.toNat)) := ⟨_, rfl⟩
  have hts : t.size = size := by rw [ht]; show ((size.toNat : Nat) : Int) = size; omega
  rw [← ht] at hof
  simp only [← ht] at HO HR ⊢
  have HOF := Lib.hid hof
  have HTS := Lib.hid (show 0 ≤ t.size ∧ t.size ≤ 65536 by rw [hts]; omega)
  have HALL := Lib.hid (show ∀ (w1 : World) (Tn : Nat), W.heap.size ≤ Tn → Tw w1 Tn (some ⟨g, 0, none⟩) t → Below W.heap.size W w1 → ∀ (w2 : World) (A : Option Addr) (m c : Nat), Rtw w2 w1.heap.size q t A m c → Rd w2 w2.heap.size 1 A m c (u8s t.text) → Below w1.heap.size w1 w2 → (∀ b o, A = some ⟨b, o, none⟩ → w1.heap.size < b) → TP w w2 B g q Tn w1.heap.size M d t A m c from fun w1 Tn hT hTw hb1 w2 A m c hU hrd hb2 hA => by
    have hlt := hTw.lt
    have hz1 := hb1.size
    have hz2 := hb2.size
    have hzB := hB.size
    refine ⟨F, hP.below (hb1.trans (hb2.mono hz1)), hTw.below hb2, hU, hrd, fun i hi => ?_, fun _ b o e => ?_, by omega, by omega, by omega, hB.trans ((hb1.trans (hb2.mono hz1)).mono hzB)⟩
    · have := hF i hi
      exact ⟨this.1, by omega, by omega, by omega⟩
    · have := hA b o e
      exact ⟨fun h => by have := hF b h; omega, by omega, by omega⟩)
  clear hP hF hB hO hR hsim hok hof hts ht
  go_enter Try.func9, Try.ntmps9
  go_wp2_with (first
    | (go_at_call 10; refine HO.out.mono ?_; rintro e w1 ⟨Tn, rfl, hT, hTw, hb1⟩)
    | (go_at_call 11; refine (HR.out _ hb1).mono ?_; rintro e w2 ⟨A, m, c, rfl, hU, hrd, hb2, hA⟩
       have HTP := Lib.hid (HALL.out w1 Tn hT hTw hb1 w2 A m c hU hrd hb2 hA)
       have HBB := Lib.hid (hb1.trans (hb2.mono hb1.size))
       clear hU hrd hb2 hA)
    | (go_at_call 15; refine (tp_like HTP.out HOF.out.2.1 HOF.out.1 HTS.out.1 HTS.out.2).mono ?_; rintro e w3 ⟨rfl, hTP3, hb3⟩
       have HTP3 := Lib.hid hTP3
       have HB3 := Lib.hid (HBB.out.trans (hb3.mono HBB.out.size))
       clear hTP3 hb3)
    | fail)
  refine bodyPost_ret (results_tmp3 rfl _ _ _) rfl ?_
  exact ⟨_, _, A, m, c, rfl, HTP3.out, HB3.out⟩
end
end Go.Proofs.Ytddnjlnhnnpgiaa

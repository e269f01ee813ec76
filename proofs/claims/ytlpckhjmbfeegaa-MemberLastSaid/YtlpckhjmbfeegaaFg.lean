/- The last set that a chain tells, up to a number. -/
import Derived.Test.YtlpckhjmbfeegaaFd
import Derived.Test.YtlpckhjmbfeegaaDa
namespace Go.Proofs.Ytlpckhjmbfeegaa
open Go.RowKit
set_option maxRecDepth 20000
/-- The last set of the first m items, and where it is told. -/
def lastIn (b first : Nat) (l : List It) : Nat → Nat × Nat
  | 0 => (first, b)
  | m + 1 => if (ofO (l.getD m itNil)).2 = true then ((ofO (l.getD m itNil)).1, b + m + 1) else lastIn b first l m
def Cv.told (t : Cv) (first i : Nat) : Nat × Nat := lastIn t.base first t.l (min i t.last - t.base)
section
variable {w w' w1 : World} {B g : Nat} {v : Value} {t : Cv}
def Tolds (t : Cv) (first i : Nat) (w : World) (e : Ending) (w' : World) : Prop := e = .returned (.tuple #[.int .u64 ((t.told first i).1 : Int), .int .u64 ((t.told first i).2 : Int)]) ∧ Below w.heap.size w w'
set_option maxHeartbeats 2000000 in
theorem upto_any (h : Ck w B g v t) (first i : Nat) : Calls Try.prog 59 #[.int .u64 (first : Int), .pointer (some ⟨g, 0, none⟩), .int .u64 (i : Int)] w (Tolds t first i w) := by
  have HB := Lib.hid (fun W (hb : Below w.heap.size w W) => base_any (h.below hb))
  have HL := Lib.hid (last_any h)
  have HG := Lib.hid (fun W (hb : Below w.heap.size w W) k => get_any (h.below hb) k)
  have HO := Lib.hid (fun x W => of_any x W)
  have hbl : (t.base : Int) < 9000000000000000000 := by have := h.bl; omega
  have hbd : (t.last : Int) < 9000000000000000000 := by have := h.bound; omega
  clear h
  unfold Tolds Cv.told
  obtain ⟨at0, ha⟩ : ∃ at0, at0 = min i t.last := ⟨_, rfl⟩
  have mi : min (i : Int) (t.last : Int) = (at0 : Int) := by omega
  have hal : at0 ≤ t.last := by omega
  rw [← ha]
  obtain ⟨⟨sa, aw⟩, hans⟩ : ∃ p, p = lastIn t.base first t.l (at0 - t.base) := ⟨_, rfl⟩
  rw [← hans]
  have HANS := Lib.hid hans
  have HAL := Lib.hid hal
  clear ha hal hans
  dsimp only
  go_enter Try.func59, Try.ntmps59
  go_wp2_with (first
    | (go_at_call 21; refine HL.out.mono ?_; rintro e w2 ⟨rfl, rfl⟩)
    | fail)
  go_loopw [8] (fun ar wy => ∃ (k : Nat) (wq : World), wq = wy ∧ ar = .int .u64 (k : Int) ∧ Hid (k ≤ t.last) ∧ Hid ((sa, aw) = lastIn t.base first t.l (k - t.base)) ∧ Hid (Below w.heap.size w wq)) (fun ar _ => (intOf ar).toNat)
  case atStart => exact ⟨at0, _, rfl, rfl, HAL, HANS, Lib.hid (Below.refl _ _)⟩
  case round =>
    obtain ⟨k, wq, rfl, rfl, HK, HA, HBQ⟩ := hrel
    by_cases hkb : t.base < k
    · have d1 : decide ((t.base : Int) < (k : Int)) = true := by simpa using hkb
      have d2 : (t.base : Int) < (k : Int) := by omega
      obtain ⟨x, hx, hx2⟩ := at_in hkb HK.out
      have hg := HG.out wq HBQ.out k
      unfold Got at hg
      rw [hx] at hg
      have hn : lastIn t.base first t.l (k - t.base) = if (ofO x).2 = true then ((ofO x).1, k) else lastIn t.base first t.l (k - 1 - t.base) := by
        rw [show k - t.base = (k - t.base - 1) + 1 by omega, lastIn, List.getD, hx2, show k - 1 - t.base = k - t.base - 1 by omega, show t.base + (k - t.base - 1) + 1 = k by omega]
        rfl
      have HA2 := Lib.hid (HA.out.trans hn)
      have HBI := HB.out wq HBQ.out
      have HB0 := Lib.hid HBI
      have HGI := Lib.hid hg
      have hk0 := HK.out
      have kI : (k : Int) < 9000000000000000000 := by omega
      have k1 : (k : Int) - 1 = ((k - 1 : Nat) : Int) := by omega
      have hoo := HO.out x
      unfold Ofs at hoo
      generalize ofO x = p at *
      obtain ⟨ps, pb⟩ := p
      have HOO := Lib.hid hoo
      clear hoo HBI hg hn hx hx2 hk0
      obtain ⟨xt, xk, xx⟩ := x
      dsimp only [It.cells, Option.getD_some, Option.isSome_some] at *
      cases pb
      all_goals go_wp2_with (first
        | (go_at_call 26; refine HB0.out.mono ?_; rintro e w2 ⟨rfl, rfl⟩)
        | (go_at_call 25; refine HGI.out.mono ?_; rintro e w3 ⟨rfl, hb3⟩
           have HB3 := Lib.hid (HBQ.out.trans (hb3.mono HBQ.out.size))
           clear hb3)
        | (go_at_call 27; refine (HOO.out _).mono ?_; rintro e w4 ⟨rfl, hb4⟩
           have ha3 := HB3.out.alloc HB3.out.size (.cells #[.int .u64 (xt : Int), .int .i64 xk, .string (str xx)] 47)
           have HB4 := Lib.hid (ha3.trans (hb4.mono ha3.size))
           clear hb4 ha3)
        | fail)
      · exact ⟨⟨k - 1, _, rfl, rfl, Lib.hid (by have := HK.out; omega), Lib.hid (by have := HA2.out; simpa using this), HB4⟩, by simp [intOf]; omega⟩
      · go_ret2
        refine ⟨?_, HB4.out⟩
        have h9 := HA2.out
        rw [if_pos (by trivial)] at h9
        cases h9
        rfl
    · have d1 : decide ((t.base : Int) < (k : Int)) = false := by simpa using hkb
      have d2 : ¬ (t.base : Int) < (k : Int) := by omega
      have HBI := Lib.hid (HB.out wq HBQ.out)
      go_wp2_with (first
        | (go_at_call 26; refine HBI.out.mono ?_; rintro e w2 ⟨rfl, rfl⟩)
        | fail)
      go_ret2
      refine ⟨?_, HBQ.out⟩
      have := HA.out
      rw [show k - t.base = 0 by omega, lastIn] at this
      cases this
      rfl
theorem last_told (h : Ck w B g v t) (first : Nat) : Calls Try.prog 36 #[.int .u64 (first : Int), .pointer (some ⟨g, 0, none⟩)] w (Tolds t first t.last w) := by
  have HL := Lib.hid (last_any h)
  have HU := Lib.hid (upto_any h first t.last)
  clear h
  unfold Tolds at HU ⊢
  generalize t.told first t.last = p at *
  go_enter Try.func36, Try.ntmps36
  go_wp2_with (first
    | (go_at_call 21; refine HL.out.mono ?_; rintro e w2 ⟨rfl, rfl⟩)
    | (go_at_call 59; refine HU.out.mono ?_; rintro e w3 ⟨rfl, hb3⟩)
    | fail)
  go_ret2
  exact ⟨rfl, hb3⟩
theorem upto_told (h : Ck w B g v t) (first i : Nat) : Calls Try.prog 39 #[.int .u64 (first : Int), .pointer (some ⟨g, 0, none⟩), .int .u64 (i : Int)] w fun e w' => e = .returned (.int .u64 ((t.told first i).1 : Int)) ∧ Below w.heap.size w w' := by
  have HU := Lib.hid (upto_any h first i)
  clear h
  unfold Tolds at HU
  generalize t.told first i = p at *
  go_enter Try.func39, Try.ntmps39
  go_wp2_with (first
    | (go_at_call 59; refine HU.out.mono ?_; rintro e w3 ⟨rfl, hb3⟩)
    | fail)
  go_ret
  exact ⟨rfl, hb3⟩
end
theorem lastIn_step {b f : Nat} {l : List It} {k i : Nat} {x : It} (hx : l[k]? = some x) : lastIn b f l (min (k + 1) (i - b)) = if (ofO x).2 = true ∧ b + 1 + k ≤ i then ((ofO x).1, b + 1 + k) else lastIn b f l (min k (i - b)) := by
  by_cases h : b + 1 + k ≤ i
  · rw [show min (k + 1) (i - b) = k + 1 by omega, show min k (i - b) = k by omega, lastIn, List.getD, hx, show b + k + 1 = b + 1 + k by omega]
    simp [h]
  · rw [show min (k + 1) (i - b) = i - b by omega, show min k (i - b) = i - b by omega, if_neg (fun c => h c.2)]
section
variable {w w' w1 : World} {g c : Nat} {A : Option Addr} {t : Cv}
set_option maxHeartbeats 2000000 in
theorem rupto_any (h : Rk w g A c t) (first i : Nat) : Calls Try.prog 37 #[.int .u64 (first : Int), .pointer (some ⟨g, 0, none⟩), .int .u64 (i : Int)] w (Tolds t first i w) := by
  have HH := Lib.hid (fun W (hb : Below w.heap.size w W) => h.below hb)
  have HO := Lib.hid (fun x W => rof_any x W)
  have c0 := h.c0
  have hbl : (t.base : Int) < 9000000000000000000 := by have := h.bl; omega
  have hbd : (t.last : Int) < 9000000000000000000 := by have := h.bound; omega
  have hln : (t.l.length : Int) ≤ 4096 := by have := h.room; omega
  have hlast : t.last = t.base + t.l.length := rfl
  obtain ⟨n, hn⟩ : ∃ n, n = t.l.length := ⟨_, rfl⟩
  rw [← hn] at hln hlast
  have HN := Lib.hid hn
  have HLS := Lib.hid hlast
  clear h hn hlast
  unfold Tolds Cv.told
  go_enter Try.func37, Try.ntmps37
  go_wp2_with (fail)
  go_loopw [8, 9, 10] (fun sr ar kr wy => ∃ (k s a : Nat) (wq : World), wq = wy ∧ k ≤ n ∧ sr = .int .u64 (s : Int) ∧ ar = .int .u64 (a : Int) ∧ kr = .int .i64 (k : Int) ∧ Hid ((s, a) = lastIn t.base first t.l (min k (i - t.base))) ∧ Hid (Below w.heap.size w wq)) (fun _ _ kr _ => n - (intOf kr).toNat)
  case atStart => exact ⟨0, first, t.base, _, rfl, Nat.zero_le _, rfl, rfl, rfl, Lib.hid (by rw [Nat.zero_min]; rfl), Lib.hid (Below.refl _ _)⟩
  case round =>
    obtain ⟨k, s, a, wq, rfl, hk, rfl, rfl, rfl, HS, HB⟩ := hrel
    have hq := HH.out wq HB.out
    have c0 := hq.c0
    have c2 := hq.c2
    rw [← HN.out] at c2
    by_cases hkn : k < n
    · have d1 : (k : Int) < (n : Int) := by omega
      obtain ⟨x, hx⟩ : ∃ x, t.l[k]? = some x := ⟨_, List.getElem?_eq_getElem (by have := HN.out; omega)⟩
      have hst := lastIn_step (b := t.base) (f := first) (i := i) hx
      obtain ⟨b, o, rfl, hbb, e0, e1, e2⟩ := hq.rd.item rfl hx
      have HS2 := Lib.hid hst
      clear hst hq hbb hx
      have hoo := HO.out x
      unfold Ofs at hoo
      have HX : Hid (∀ m, (ofO x) = m → True) := Lib.hid (fun _ _ => trivial)
      clear HX
      generalize ofO x = p at *
      obtain ⟨ps, pb⟩ := p
      have HOO := Lib.hid hoo
      clear hoo
      obtain ⟨xt, xk, xx⟩ := x
      dsimp only [It.cells] at *
      obtain ⟨q, hq⟩ : ∃ q, q = t.base + 1 + k := ⟨_, rfl⟩
      have hbI : (t.base : Int) + 1 + (k : Int) = (q : Int) := by omega
      have hqI : (q : Int) < 18446744073709551616 := by omega
      rw [← hq] at HS2
      have HQ := Lib.hid hq
      clear hq
      by_cases hle : q ≤ i
      · have d3 : (q : Int) ≤ (i : Int) := by omega
        cases pb
        all_goals go_wp2_with (first
          | (go_at_call 28; refine (HOO.out _).mono ?_; rintro e w4 ⟨rfl, hb4⟩
             have c0 := (HH.out w4 (HB.out.trans (hb4.mono HB.out.size))).c0
             have HB4 := Lib.hid (HB.out.trans (hb4.mono HB.out.size))
             clear hb4)
          | fail)
        · exact ⟨⟨k + 1, s, a, _, rfl, by omega, rfl, rfl, by go_num, Lib.hid (HS.out.trans (HS2.out.trans (if_neg (by simp))).symm), HB4⟩, by simp [intOf]; omega⟩
        · exact ⟨⟨k + 1, ps, q, _, rfl, by omega, rfl, rfl, by go_num, Lib.hid (HS2.out.trans (if_pos (by simp [hle]))).symm, HB4⟩, by simp [intOf]; omega⟩
      · have d3 : ¬ (q : Int) ≤ (i : Int) := by omega
        cases pb
        all_goals go_wp2_with (first
          | (go_at_call 28; refine (HOO.out _).mono ?_; rintro e w4 ⟨rfl, hb4⟩
             have c0 := (HH.out w4 (HB.out.trans (hb4.mono HB.out.size))).c0
             have HB4 := Lib.hid (HB.out.trans (hb4.mono HB.out.size))
             clear hb4)
          | fail)
        · exact ⟨⟨k + 1, s, a, _, rfl, by omega, rfl, rfl, by go_num, Lib.hid (HS.out.trans (HS2.out.trans (if_neg (by simp))).symm), HB4⟩, by simp [intOf]; omega⟩
        · exact ⟨⟨k + 1, s, a, _, rfl, by omega, rfl, rfl, by go_num, Lib.hid (HS.out.trans (HS2.out.trans (if_neg (by simp [hle]))).symm), HB4⟩, by simp [intOf]; omega⟩
    · obtain rfl : k = n := by omega
      clear hq
      go_wp2_with (fail)
      go_ret2
      refine ⟨?_, HB.out⟩
      have h9 := HS.out
      rw [show min k (i - t.base) = min i t.last - t.base by have := HLS.out; omega] at h9
      rw [← h9]
      rfl
end
end Go.Proofs.Ytlpckhjmbfeegaa

/- A vow whose device keeps its power. -/
import Derived.Test.YteakdmabdfpiiaaVowe
namespace Go.Proofs.Yteakdmabdfpiiaa
set_option maxRecDepth 20000
open Go.RowKit

theorem write_calm (d : Dv) (hd : d.down = false) (hf : d.fuse = 0) (x : Int) (l : List UInt8) (j : Nat) : (d.write x l j).2 = 0 ∧ (d.write x l j).1.down = false ∧ (d.write x l j).1.fuse = 0 := by
  induction j with
  | zero => exact ⟨rfl, hd, hf⟩
  | succ j ih =>
    obtain ⟨h1, h2, h3⟩ := ih
    rw [Dv.write, if_neg (by rw [h1]; decide)]
    have e : ((d.write x l j).1.chg (x + j, pad (sct l j))).step.down = false := by
      show (if (d.write x l j).1.fuse = 0 then (d.write x l j).1.down else _) = false
      rw [if_pos h3]
      exact h2
    refine ⟨?_, e, ?_⟩
    · show pw _ = 0
      rw [e]; rfl
    · show (d.write x l j).1.fuse - 1 = 0
      rw [h3]
theorem save_calm (d : Dv) (hd : d.down = false) (hf : d.fuse = 0) (x : Int) (m : Nat) (l : List UInt8) : (d.save x m l).2 = 0 ∧ (d.save x m l).1.fuse = 0 := by
  obtain ⟨h1, h2, h3⟩ := write_calm d hd hf x (makeOf m l) (sectorsOf l.length)
  unfold Dv.save
  rw [if_neg (by rw [hd]; decide), if_neg (by rw [h1]; decide)]
  generalize (d.write x (makeOf m l) (sectorsOf l.length)).1 = d1 at *
  have e : d1.step.down = false := by
    show (if d1.fuse = 0 then d1.down else _) = false
    rw [if_pos h3]
    exact h2
  unfold Dv.flush
  rw [if_neg (by rw [h2]; decide), if_neg (by rw [e]; decide)]
  refine ⟨rfl, ?_⟩
  show d1.fuse - 1 = 0
  rw [h3]
/-- A vow that stands on a calm device. -/
structure Good (base : Int) (d : Dv) (t : Tv) (p : Vv) : Prop where
  st : Stands base 1 d t
  up : d.down = false
  told : Told t p
  vote : p.vote ≤ 7
  tm : p.term < 18446744073709551616
theorem Vv.sect (q : Vv) : sectorsOf q.text.length = 1 := by rw [Vv.text_len]; rfl
theorem Good.fit {d : Dv} {t : Tv} {p : Vv} (h : Good 1 d t p) (hx : t.next < 255) (hn : 3 ≤ d.n) : Fit d t := by
  have hp := stands_place h.st
  exact ⟨hp.1, hp.2, h.st.tb, h.st.ts, h.st.next, by omega, hn⟩
/-- A promise that is saved, and no power lost. -/
theorem good_done {base : Int} {d : Dv} {t : Tv} {p q : Vv} (h : Good base d t p) (hx : t.next < 255) (hq : q.vote ≤ 7) (hqt : q.term < 18446744073709551616) (he : (vsave d t p q).2.2.2 = 0) (hfu : (vsave d t p q).1.fuse < 18446744073709551616) :
    Good base (vsave d t p q).1 (vsave d t p q).2.1 q ∧ (vsave d t p q).2.2.1 = q ∧ (vsave d t p q).2.1.next = t.next + 1 ∧ (vsave d t p q).1.n = d.n := by
  unfold vsave at *
  dsimp only at *
  have ht : q.text.length ≤ 65536 := by rw [Vv.text_len]; decide
  obtain ⟨s1, s2, s3, s4⟩ := Dv.save_done d h.up h.st.calm _ _ q.text ht h.st.ok.S he
  have ho := torns_ok d _ h.st.ok _ _ q.text ht (fun _ => 64) (fun _ => Nat.le_refl _) s3 s1 hfu s4
  obtain ⟨g1, g2⟩ := stands_save h.st h.up (by decide) q.text ht (by rw [Vv.sect]; decide) (by omega) he ho
  rw [he]
  refine ⟨⟨g1, g2, ?_, hq, hqt⟩, if_pos rfl, ?_, s3⟩
  · exact .inr ⟨h.st.next, rfl, hqt, hq⟩
  · show (t.next + 1) % 18446744073709551616 = t.next + 1
    exact Nat.mod_eq_of_lt (by omega)
theorem good_calm {base : Int} {d : Dv} {t : Tv} {p q : Vv} (h : Good base d t p) (hf : d.fuse = 0) (hx : t.next < 255) (hq : q.vote ≤ 7) (hqt : q.term < 18446744073709551616) :
    Good base (vsave d t p q).1 (vsave d t p q).2.1 q ∧ (vsave d t p q).1.fuse = 0 ∧ (vsave d t p q).2.2.2 = 0 ∧ (vsave d t p q).2.2.1 = q ∧ (vsave d t p q).2.1.next = t.next + 1 ∧ (vsave d t p q).1.n = d.n := by
  obtain ⟨e1, e2⟩ := save_calm d h.up hf (t.base + t.free * t.size) t.next q.text
  obtain ⟨g1, g2, g3, g4⟩ := good_done (p := p) (q := q) h hx hq hqt e1 (by show (d.save _ _ _).1.fuse < _; rw [e2]; decide)
  exact ⟨g1, e2, e1, g2, g3, g4⟩
theorem good_new (n : Nat) (h1 : n ≤ 65536) (base : Int) : Good base (Dv.new n) (openTv base 1 ((Dv.new n).bytes base (2 * 1))) ⟨0, 0⟩ ∧ (openTv base 1 ((Dv.new n).bytes base (2 * 1))).next ≤ 1 := by
  obtain ⟨s1, s2⟩ := stands_open (base := base) (size := 1) (Dv.new_ok n h1) rfl 0 (by decide) (fun _ _ => ends_Z)
  refine ⟨⟨s1, rfl, ?_, by decide, by decide⟩, s2⟩
  left
  have := (s1.text).resolve_right (by decide)
  exact ⟨by omega, rfl⟩
/-- What is opened again. -/
theorem good_again {base : Int} {d : Dv} {t : Tv} {p : Vv} (h : Good base d t p) (hx : t.next < 256) : Good base d (openTv base 1 (d.bytes base (2 * 1))) p ∧ (openTv base 1 (d.bytes base (2 * 1))).next ≤ t.next := by
  have hx0 := h.st.next
  obtain ⟨s1, s2⟩ := stands_open (base := base) (size := 1) h.st.ok h.st.calm (t.next - 1) (by omega) h.st.ends
  have e := h.st.best
  have e1 : (openTv base 1 (d.bytes base (2 * 1))).number = t.number := (Prod.mk.inj (Prod.mk.inj e).2).1.symm
  have e2 : (openTv base 1 (d.bytes base (2 * 1))).text = t.text := (Prod.mk.inj (Prod.mk.inj e).2).2.symm
  refine ⟨⟨s1, h.up, ?_, h.vote, h.tm⟩, by omega⟩
  unfold Told
  rw [e1, e2]
  exact h.told

set_option maxHeartbeats 4000000 in
theorem lives12 (w : World) : Calls Try.prog 27 #[] w fun e w' => e = .returned (.bool true) ∧ Below w.heap.size w w' := by
  have HNew := Lib.hid (dlx_new 4 w (by omega) (by omega))
  obtain ⟨g0, g0x⟩ := good_new 4 (by decide) 1
  obtain ⟨t0, ht0⟩ : ∃ t, t = openTv 1 1 ((Dv.new 4).bytes 1 (2 * 1)) := ⟨_, rfl⟩
  rw [← ht0] at g0 g0x
  obtain ⟨d0, hd0⟩ : ∃ d, d = Dv.new 4 := ⟨_, rfl⟩
  have n0 : d0.n = 4 := by rw [hd0]; rfl
  have f0 : d0.fuse = 0 := by rw [hd0]; rfl
  rw [← hd0] at g0
  obtain ⟨g1, f1, e1, p1, x1, n1⟩ := good_calm (q := ⟨3, 2⟩) g0 f0 (by omega) (by decide) (by decide)
  have c1 : (⟨0, 0⟩ : Vv).casted 3 1 = .inr ⟨3, 2⟩ := rfl
  generalize hr1 : vsave d0 t0 ⟨0, 0⟩ ⟨3, 2⟩ = r1 at g1 f1 e1 p1 x1 n1
  obtain ⟨d1, t1, q1, z1⟩ := r1
  dsimp only at g1 f1 e1 p1 x1 n1
  subst e1 p1
  have c2 : (⟨3, 2⟩ : Vv).casted 3 2 = .inl 41 := rfl
  have c3 : (⟨3, 2⟩ : Vv).raised 4 = .inr ⟨4, 0⟩ := rfl
  obtain ⟨g2, f2, e2, p2, x2, n2⟩ := good_calm (q := ⟨4, 0⟩) g1 f1 (by omega) (by decide) (by decide)
  generalize hr2 : vsave d1 t1 ⟨3, 2⟩ ⟨4, 0⟩ = r2 at g2 f2 e2 p2 x2 n2
  obtain ⟨d2, t2, q2, z2⟩ := r2
  dsimp only at g2 f2 e2 p2 x2 n2
  subst e2 p2
  have HG0 := Lib.hid g0
  have HG1 := Lib.hid g1
  have HF0 := Lib.hid (g0.fit (by omega) (by omega))
  have HF1 := Lib.hid (g1.fit (by omega) (by omega))
  have HT0 := Lib.hid ht0
  have HD0 := Lib.hid hd0
  have HN0 := Lib.hid n0
  have hca1 := fun {W : World} {T V M g : Nat} (h : Vlx (fun _ => False) w W w.heap.size g T V M d0 t0 ⟨0, 0⟩) (hM : M ≤ 90000) => vcast_any h (g0.fit (by omega) (by omega)) hM 3 1 (by decide) (by decide)
  have hca2 := fun {W : World} {T V M g : Nat} (h : Vlx (fun _ => False) w W w.heap.size g T V M d1 t1 ⟨3, 2⟩) (hM : M ≤ 90000) => vcast_any h (g1.fit (by omega) (by omega)) hM 3 2 (by decide) (by decide)
  have hra := fun {W : World} {T V M g : Nat} (h : Vlx (fun _ => False) w W w.heap.size g T V M d1 t1 ⟨3, 2⟩) (hM : M ≤ 90000) => vraise_any h (g1.fit (by omega) (by omega)) hM 4
  rw [c1] at hca1
  rw [c2] at hca2
  rw [c3] at hra
  unfold vstep at hca1 hca2 hra
  dsimp only at hca1 hca2 hra
  rw [hr1] at hca1
  rw [hr2] at hra
  clear hr1 hr2 c1 c2 c3 g0 g1 g2 f0 f1 f2 x1 x2 n1 n2 g0x ht0 hd0 n0
  go_enter Try.func27, Try.ntmps27
  go_wp2_with (first
    | (go_at_call 10; refine HNew.out.mono ?_; rintro e w1 ⟨g, rfl, hD0⟩; rw [← HD0.out] at hD0)
    | (go_at_call 28; refine (vopn_any hD0 HG0.out.up 1 (by decide) (by rw [HN0.out]; decide) t0 (by rw [HT0.out, HD0.out]) ⟨0, 0⟩ HG0.out.told).mono ?_; rintro e w2 ⟨T, V, rfl, hV0, hb2⟩)
    | (go_at_call 31; refine (hca2 hV1 (by omega)).mono ?_; rintro e w4 ⟨rfl, hV2, hk2⟩)
    | (go_at_call 31; refine (hca1 hV0 (by omega)).mono ?_; rintro e w3 ⟨rfl, hV1, hk1⟩)
    | (go_at_call 30; refine (hra hV2 (by omega)).mono ?_; rintro e w5 ⟨rfl, hV3, hk3⟩)
    | (go_at_call 54; refine (vvote_none hV3.vw rfl).mono ?_; rintro e w6 ⟨rfl, rfl⟩)
    | (go_at_call 54; refine (vvote_some hV2.vw (by decide) (by decide)).mono ?_; rintro e w6 ⟨rfl, rfl⟩)
    | (go_at_call 55; refine (vterm_any hV3.vw).mono ?_; rintro e w6 ⟨rfl, rfl⟩)
    | fail)
  go_ret
  exact ⟨rfl, hV3.bel⟩
end Go.Proofs.Yteakdmabdfpiiaa

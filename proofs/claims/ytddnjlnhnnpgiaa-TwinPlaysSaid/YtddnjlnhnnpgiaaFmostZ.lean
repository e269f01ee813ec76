/- The document's own Read (keelsonref05). frame.Most. -/
import Derived.Test.YtddnjlnhnnpgiaaFrefZ
import Derived.Test.YtddnjlnhnnpgiaaFpureZ
import Derived.Test.YtddnjlnhnnpgiaaDeviZ
namespace Go.Proofs.Ytddnjlnhnnpgiaa
set_option maxRecDepth 20000
open Go.RowKit

/-- x[lo:], whatever its capacity. -/
theorem run_from {P : Program} {t e : TypeId} (ht : P.underlying t = some (.slice e)) (hz : (P.info? e).map (·.size) = some 1) {w : World} {B n c : Nat} {A : Option Addr} {xs : List Value} (h : Rd w B 1 A n c xs) (lo : Nat) (hlo : lo ≤ n) :
    ∃ A', (∀ W, (Instr.sliceAt t (.slice A n c) (some (.int .i64 (lo : Int))) none none).run P W = .ok (.slice A' (n - lo) (c - lo)) W) ∧ Rd w B 1 A' (n - lo) (c - lo) (xs.drop lo) := by
  obtain ⟨i, hi, hi1⟩ : ∃ i, P.info? e = some i ∧ i.size = 1 := by
    cases hi : P.info? e with
    | none => rw [hi] at hz; cases hz
    | some i => rw [hi] at hz; exact ⟨i, rfl, by simpa using hz⟩
  have hc := h.1
  have hl := h.len
  refine ⟨if c = lo then A else A.map (·.add lo), fun W => ?_, ?_⟩
  · simp [Instr.sliceAt, Instr.slice, Instr.sliceBounds, Instr.sliceBound, asIntOf, run_underlying ht, hlo, Go.sizeOf, Go.typeInfo, hi, hi1, Result.andThen]
  · by_cases hcl : c = lo
    · rw [if_pos hcl]
      have e1 : n - lo = 0 := by omega
      have e2 : xs.drop lo = [] := List.drop_of_length_le (by omega)
      rw [e1, e2]
      exact Rd.empty (by have := h.2.1; omega)
    · rw [if_neg hcl]
      have := h.cut (k := lo) (m := n - lo) (by omega)
      rwa [List.take_of_length_le (by rw [List.length_drop]; omega)] at this

theorem below_drewN {B : Nat} {w w1 : World} (h : Below B w w1) (n : Nat) : Below B w (w1.drewN n) := ⟨h.os, h.tape, h.output, h.size, h.block⟩
theorem Rd.drewN {w : World} {B sz m c : Nat} {A : Option Addr} {xs : List Value} (h : Rd w B sz A m c xs) (n : Nat) : Rd (w.drewN n) B sz A m c xs := h
theorem readOf_size (l : List UInt8) (h : (sizeOf l).2 ≠ 0) : readOf l = (0, [], (sizeOf l).2) := by unfold readOf; rw [if_pos h]
theorem readOf_join (l : List UInt8) (sz : Nat) (hs : sizeOf l = (sz, 0)) (h : (joinedOf l (sectorsOf sz) (headsOf l)).2 ≠ 0) : readOf l = (0, [], (joinedOf l (sectorsOf sz) (headsOf l)).2) := by
  unfold readOf; rw [hs]; rw [if_neg (by simp), if_pos h]
theorem readOf_open (l : List UInt8) (sz : Nat) (body : List UInt8) (hs : sizeOf l = (sz, 0)) (hj : joinedOf l (sectorsOf sz) (headsOf l) = (body, 0)) : readOf l = if (openedOf body sz).2 ≠ 0 then (0, [], (openedOf body sz).2) else (headsOf l, (openedOf body sz).1, 0) := by
  unfold readOf; rw [hs]; simp only; rw [hj]; simp only; rw [if_neg (by simp), if_neg (by simp)]

def Early (l : List UInt8) (E : Int) : Prop := readOf l = (0, [], E)
theorem tells_early {w w' : World} {l : List UInt8} {E : Int} (h : Hid (readOf l = (0, [], E))) (hb : Below w.heap.size w w') : Tells3 w (readOf l) (.returned (.tuple #[.int .u64 0, .slice none 0 0, .int .i64 E])) w' := by
  rw [h.out]
  exact ⟨none, 0, 0, rfl, rfl, Rd.nil_, hb⟩
theorem rread_short (A : Option Addr) (n c : Nat) (l : List UInt8) (w : World) (hln : l.length = n) (hs : n < 64) : Calls Try.prog 30 #[.slice A n c] w (Tells3 w (readOf l)) := by
  have hi : (n : Int) < 64 := by omega
  have hr : Hid (readOf l = (0, [], 10)) := Lib.hid (by
    have e : sizeOf l = (0, 10) := by unfold sizeOf; rw [if_pos (by omega)]
    rw [readOf_size l (by rw [e]; simp), e])
  clear hln
  go_enter Try.func30, Try.ntmps30
  go_wp2
  refine bodyPost_ret (results_tmp3 rfl _ _ _) rfl ?_
  exact tells_early hr (Below.refl _ _)
theorem rread_ends (A : Option Addr) (n c : Nat) (l : List UInt8) (w : World) (h : Rd w w.heap.size 1 A n c (u8s l)) (hn : n ≤ 1000000) (hs : 64 ≤ n) (hw : headsOf l ≠ tailsOf l ∨ headsOf l = 0) : Calls Try.prog 30 #[.slice A n c] w (Tells3 w (readOf l)) := by
  have hln : l.length = n := by have := h.len; rwa [u8s_len] at this
  have hd : decide ((n : Int) < 64) = false := by simp; omega
  have hE := rends_any A n c l w h hn
  have hr : Hid (readOf l = (0, [], if headsOf l ≠ tailsOf l then 13 else 40)) := Lib.hid (by
    have e : sizeOf l = (0, if headsOf l ≠ tailsOf l then 13 else 40) := by
      have ew : wrongOf l (headsOf l) = if headsOf l ≠ tailsOf l then 13 else 40 := by
        unfold wrongOf
        by_cases hne : headsOf l ≠ tailsOf l
        · rw [if_pos (.inl hne), if_pos hne]
        · rw [if_neg (by simpa using hne), if_neg hne, if_pos (hw.resolve_left hne)]
      unfold sizeOf
      rw [if_neg (by omega), ew, if_pos (by split <;> decide)]
    rw [readOf_size l (by rw [e]; simp only; split <;> decide), e])
  generalize headsOf l = hd1 at *
  generalize tailsOf l = tl1 at *
  have HE := Lib.hid hE
  clear hE hln
  by_cases hne : hd1 = tl1
  · subst hne
    obtain rfl : hd1 = 0 := hw.resolve_left (by simp)
    rw [if_neg (by simp)] at hr
    go_enter Try.func30, Try.ntmps30
    go_wp2_with (go_at_call 52; refine HE.out.mono ?_; rintro e w1 ⟨rfl, hb1⟩)
    refine bodyPost_ret (results_tmp3 rfl _ _ _) rfl ?_
    exact tells_early hr hb1
  · rw [if_pos hne] at hr
    have q : (((hd1 : Nat) : Int) != ((tl1 : Nat) : Int)) = true := by simp; omega
    clear hne hw
    go_enter Try.func30, Try.ntmps30
    go_wp2_with (go_at_call 52; refine HE.out.mono ?_; rintro e w1 ⟨rfl, hb1⟩)
    refine bodyPost_ret (results_tmp3 rfl _ _ _) rfl ?_
    exact tells_early hr hb1

theorem ref_num4 (t : List UInt8) (ht : t.length = 4) : ((refSt t 0 false).num 4).1 = unle t := by
  unfold refSt
  simp only [Bool.false_eq_true, if_false, List.drop_zero]
  rw [show St.num ⟨t, false⟩ 4 = (unle t, ⟨[], false⟩) from st_num t 4 (by omega) (by omega) ht]

set_option maxHeartbeats 8000000 in
set_option maxRecDepth 8000 in
theorem rread_late (A : Option Addr) (n c : Nat) (l : List UInt8) (w : World) (h : Rd w w.heap.size 1 A n c (u8s l)) (hn : n ≤ 1000000) (hs : 64 ≤ n) (hht : headsOf l = tailsOf l) (hm0 : headsOf l ≠ 0) : Calls Try.prog 30 #[.slice A n c] w (Tells3 w (readOf l)) := by
  have hln : l.length = n := by have := h.len; rwa [u8s_len] at this
  have hd : decide ((n : Int) < 64) = false := by simp; omega
  have hE := rends_any A n c l w h hn
  obtain ⟨M, hM⟩ : ∃ M, M = headsOf l := ⟨_, rfl⟩
  rw [← hht, ← hM] at hE
  have hMlt : M < 18446744073709551616 := by rw [hM]; exact headsOf_lt l
  have q1 : (((M : Nat) : Int) != ((M : Nat) : Int)) = false := bne_self_eq_false _
  have q2 : (((M : Nat) : Int) == 0) = false := by simp; omega
  obtain ⟨b, o, rfl, hbl, hcell⟩ := h.2.2.2 (by omega)
  have hnc := h.1
  -- the size
  have h4 := h.cut (k := 8) (m := 4) (by omega)
  rw [← u8s_drop, ← u8s_take, Option.map_some, addOff] at h4
  have h4l : ((l.drop 8).take 4).length = 4 := by rw [List.length_take, List.length_drop]; omega
  have hsn : sizeNum l = unle ((l.drop 8).take 4) := by unfold sizeNum; rw [List.take_take]; rfl
  have hN := fun (w1 : World) (g : Nat) (hR : RefR w1 g (some ⟨b, o + 8, none⟩) 4 (c - 8) 0 false) (hr : Rd w1 w.heap.size 1 (some ⟨b, o + 8, none⟩) 4 (c - 8) (u8s ((l.drop 8).take 4))) (hg : w.heap.size ≤ g) => rnum_any w.heap.size g 4 (c - 8) 0 false _ ((l.drop 8).take 4) 4 w1 hR hr hg (by omega) (by omega) (by omega) (by omega)
  have hq1 := ref_num4 _ h4l
  obtain ⟨q, hq⟩ : ∃ q, q = (refSt ((l.drop 8).take 4) 0 false).num 4 := ⟨_, rfl⟩
  rw [← hq] at hq1
  simp only [← hq] at hN
  obtain ⟨x, qs⟩ := q
  dsimp only at hq1
  have hxs : sizeNum l = x := hsn.trans hq1.symm
  have hxlt : x < 4294967296 := by rw [← hxs]; exact sizeNum_lt l
  have hsz : sizeOf l = if 65536 < x then (0, 11) else (x, 0) := by
    have ew : wrongOf l (headsOf l) = 0 := by unfold wrongOf; rw [if_neg (by rw [hht]; simp), if_neg hm0]
    unfold sizeOf
    rw [if_neg (by omega), ew, if_neg (by simp), hxs]
  have HN := Lib.hid hN
  have HE := Lib.hid hE
  have H4 := Lib.hid h4
  have HXL := Lib.hid hxlt
  have hh := Lib.hid h
  clear hN hE h4 hq hq1 hsn hxs hcell h4l hxlt
  have hn8 : (c : Int) - 8 = ((c - 8 : Nat) : Int) := by omega
  by_cases hbig : 65536 < x
  · rw [if_pos hbig] at hsz
    have hr : Hid (readOf l = (0, [], 11)) := Lib.hid (by rw [readOf_size l (by rw [hsz]; simp), hsz])
    have d1 : decide ((65536 : Int) < (x : Int)) = true := by simp; omega
    have HS := Lib.hid hsz
    clear hbig hsz hht hm0 hM hMlt hn h hln
    go_enter Try.func30, Try.ntmps30
    go_wp2_with (first
      | (go_at_call 52; refine HE.out.mono ?_; rintro e w1 ⟨rfl, hb1⟩)
      | (go_at_call 53; refine (HN.out _ w1.heap.size (heap_alloc_new w1 _) (H4.out.below (hb1.alloc hb1.size _)) hb1.size).mono ?_; rintro e w2 ⟨a', b', rfl, hR2, ha2, hs2, hg2⟩)
      | fail)
    refine bodyPost_ret (results_tmp3 rfl _ _ _) rfl ?_
    exact tells_early hr ((hb1.alloc hb1.size _).grown hg2 (by have := hb1.size; simp; omega) (fun k e => by have := Option.some.inj e; have := hb1.size; omega))
  · rw [if_neg hbig] at hsz
    have d1 : decide ((65536 : Int) < (x : Int)) = false := by simp; omega
    obtain ⟨k, hk⟩ : ∃ k, k = sectorsOf (x : Int) := ⟨_, rfl⟩
    have hk2 := hk.trans (sectorsOf_at x (by omega))
    have hSec := fun w => rsectors_any (x : Int) w (by simp [Lit.wf, IntKind.min, IntKind.max, IntKind.signed, IntKind.bits]; omega)
    rw [← hk] at hSec
    have HSec := Lib.hid hSec
    have hki : (k : Int) ≤ 2000 := by omega
    have hx7 : (x : Int) ≤ 70000 := by omega
    have HX := Lib.hid (show x ≤ 65536 by omega)
    have HSZ := Lib.hid hsz
    have HM := Lib.hid hM
    have HK := Lib.hid hk
    by_cases hcut : n < 64 * k
    · have hr : Hid (readOf l = (0, [], 10)) := Lib.hid (by
        have ej : joinedOf l (sectorsOf x) (headsOf l) = ([], 10) := by rw [← hk, ← hM]; unfold joinedOf; rw [if_pos (by omega)]
        rw [readOf_join l x hsz (by rw [ej]; simp), ej])
      have d2 : decide ((n : Int) < (k : Int) * 64) = true := by simp; omega
      clear hbig hsz hht hm0 hM hMlt hn h hln hSec hk hk2 hcut
      go_enter Try.func30, Try.ntmps30
      go_wp2_with (first
        | (go_at_call 52; refine HE.out.mono ?_; rintro e w1 ⟨rfl, hb1⟩)
        | (go_at_call 53; refine (HN.out _ w1.heap.size (heap_alloc_new w1 _) (H4.out.below (hb1.alloc hb1.size _)) hb1.size).mono ?_; rintro e w2 ⟨a', b', rfl, hR2, ha2, hs2, hg2⟩)
        | (go_at_call 54; refine (HSec.out _).mono ?_; rintro e w0 ⟨rfl, rfl⟩)
        | fail)
      refine bodyPost_ret (results_tmp3 rfl _ _ _) rfl ?_
      exact tells_early hr ((hb1.alloc hb1.size _).grown hg2 (by have := hb1.size; simp; omega) (fun k e => by have := Option.some.inj e; have := hb1.size; omega))
    · have d2 : decide ((n : Int) < (k : Int) * 64) = false := by simp; omega
      have hjo : ∀ E, errAt l M k = E → E ≠ 0 → readOf l = (0, [], E) := by
        intro E hE hE0
        have ej : joinedOf l (sectorsOf x) (headsOf l) = ([], E) := by rw [← hk, ← hM]; unfold joinedOf; rw [if_neg (by omega), hE, if_pos hE0]
        rw [readOf_join l x hsz (by rw [ej]; exact hE0), ej]
      have hjg : errAt l M k = 0 → readOf l = if (openedOf (pieces l k) x).2 ≠ 0 then (0, [], (openedOf (pieces l k) x).2) else (M, (openedOf (pieces l k) x).1, 0) := by
        intro hE
        have ej : joinedOf l (sectorsOf x) (headsOf l) = (pieces l k, 0) := by rw [← hk, ← hM]; unfold joinedOf; rw [if_neg (by omega), hE, if_neg (by simp)]
        rw [readOf_open l x _ hsz ej, ← hM]
      have HJO := Lib.hid hjo
      have HJG := Lib.hid hjg
      have HLN := Lib.hid hln
      have HNN := Lib.hid hn
      have hkn : 64 * k ≤ n := by omega
      have HK2 := Lib.hid hk2
      have hkc : (k : Int) * 64 ≤ (c : Int) := by omega
      have HM0 := Lib.hid (show M ≠ 0 by rw [hM]; exact hm0)
      clear hbig hsz hht hm0 hM hMlt hn h hln hSec hk hk2 hcut hjo hjg
      go_enter Try.func30, Try.ntmps30
      go_wp2_with (first
        | (go_at_call 52; refine HE.out.mono ?_; rintro e w1 ⟨rfl, hb1⟩)
        | (go_at_call 53; refine (HN.out _ w1.heap.size (heap_alloc_new w1 _) (H4.out.below (hb1.alloc hb1.size _)) hb1.size).mono ?_; rintro e w2 ⟨a', b', rfl, hR2, ha2, hs2, hg2⟩)
        | (go_at_call 54; refine (HSec.out _).mono ?_; rintro e w0 ⟨rfl, rfl⟩)
        | fail)
      have hb02 : Below w.heap.size w w2 := (hb1.alloc hb1.size _).grown hg2 (by have := hb1.size; simp; omega) (fun k e => by have := Option.some.inj e; have := hb1.size; omega)
      have hown0 : w2.ownsRow w2.heap.size 5 1 (.slice none 0 0) 0 [] := World.ownsRow_nil _ _ _ _
      clear hR2 ha2 hs2 hg2 hb1
      have hz02 := hb02.size
      go_loopw [10, 11] (fun vr ir wr => ∃ i : Nat, i ≤ k ∧ ir = .int .i64 (i : Int) ∧ Hid (errAt l M i = 0) ∧ wr.ownsRow w2.heap.size 5 1 vr (48 * i) (u8s (pieces l i)) ∧ Below w2.heap.size w2 wr) (fun _ ir _ => k - (intOf ir).toNat)
      case atStart => exact ⟨0, Nat.zero_le _, rfl, Lib.hid rfl, hown0, Below.refl _ _⟩
      case round =>
        obtain ⟨i, hi, rfl, herr, hown, hb⟩ := hrel
        have hb0 := hb02.trans (hb.mono hz02)
        by_cases hlt : i < k
        · have hcut := (hh.out.below hb0).cut (k := i * 64) (m := n - i * 64) (by omega)
          rw [← u8s_drop, ← u8s_take, Option.map_some, addOff, List.take_of_length_le (by rw [List.length_drop, HLN.out]; exact Nat.le_refl _)] at hcut
          have hEi := rends_any _ _ _ _ wr (hcut.more hb0.size) (by have := HNN.out; omega)
          have hheads := heads_take (l.drop (i * 64)) (by rw [List.length_drop, HLN.out]; omega)
          have hsect : sect l i = (l.drop (i * 64)).take 64 := by unfold sect; rw [Nat.mul_comm]
          rw [← hsect] at hheads
          rw [← hheads.1, ← hheads.2] at hEi
          have hpc := (hh.out.below hb0).cut (k := i * 64 + 8) (m := 48) (by omega)
          have hpiece : (l.drop (i * 64 + 8)).take 48 = piece l i := by
            unfold piece sect
            rw [List.drop_take, List.take_take, List.drop_drop, Nat.mul_comm]
            rfl
          rw [← u8s_drop, ← u8s_take, Option.map_some, addOff, hpiece] at hpc
          have herr1 : errAt l M (i + 1) = wrongOf (sect l i) M := by rw [errAt, if_neg (by rw [herr.out]; simp)]
          have hstay := errAt_stays l M (i + 1) k (by omega)
          obtain ⟨a, ha⟩ : ∃ a, a = headsOf (sect l i) := ⟨_, rfl⟩
          obtain ⟨t, ht⟩ : ∃ t, t = tailsOf (sect l i) := ⟨_, rfl⟩
          rw [← ha, ← ht] at hEi
          have hwr : wrongOf (sect l i) M = if a ≠ M ∨ t ≠ M then 13 else 0 := by
            unfold wrongOf
            rw [← ha, ← ht]
            by_cases hbad : a ≠ M ∨ t ≠ M
            · rw [if_pos hbad, if_pos (by omega)]
            · rw [if_neg hbad, if_neg (by omega), if_neg HM0.out]
          have i0 : (0 : Int) ≤ (i : Int) * 64 := by omega
          have i1 : (i : Int) * 64 ≤ (n : Int) := by omega
          have i2 : (i : Int) * 64 ≤ (c : Int) := by omega
          have i3 : ((i : Int) * 64).toNat = i * 64 := by omega
          have i4 : ¬ c = i * 64 := by omega
          have i5 : ((i : Int) * 64 + 8).toNat = i * 64 + 8 := by omega
          have i6 : ((i : Int) * 64 + 8 + 48).toNat = i * 64 + 8 + 48 := by omega
          have i7 : (i : Int) * 64 + 8 + 48 ≤ (c : Int) := by omega
          have i8 : ¬ c = i * 64 + 8 := by omega
          have hii : (i : Int) ≤ 2000 := by omega
          have HEI := Lib.hid hEi
          have HPC := Lib.hid hpc
          have HER1 := Lib.hid herr1
          have HST := Lib.hid hstay
          have HWR := Lib.hid hwr
          clear hEi hpc hcut hheads hsect hpiece herr1 hstay ha ht hwr
          by_cases hbad : a ≠ M ∨ t ≠ M
          · have hr : Hid (readOf l = (0, [], 13)) := Lib.hid (HJO.out 13 (by rw [HST.out (by rw [HER1.out, HWR.out, if_pos hbad]; decide), HER1.out, HWR.out, if_pos hbad]) (by decide))
            by_cases haM : a = M
            · have htM : t ≠ M := by omega
              have qa : (((a : Nat) : Int) != ((M : Nat) : Int)) = false := by simp [haM]
              have qt : (((t : Nat) : Int) != ((M : Nat) : Int)) = true := by simp; omega
              have HaM := Lib.hid haM
              clear hbad haM htM
              go_wp2_with (first
                | (go_at_call 52; refine HEI.out.mono ?_; rintro e w3 ⟨rfl, hb3⟩)
                | fail)
              refine bodyPost_ret (results_tmp3 rfl _ _ _) rfl ?_
              exact tells_early hr (hb0.trans (hb3.mono hb0.size))
            · have qa : (((a : Nat) : Int) != ((M : Nat) : Int)) = true := by simp; omega
              clear hbad haM
              go_wp2_with (first
                | (go_at_call 52; refine HEI.out.mono ?_; rintro e w3 ⟨rfl, hb3⟩)
                | fail)
              refine bodyPost_ret (results_tmp3 rfl _ _ _) rfl ?_
              exact tells_early hr (hb0.trans (hb3.mono hb0.size))
          · have haM : a = M := by omega
            have htM : t = M := by omega
            have qa : (((a : Nat) : Int) != ((M : Nat) : Int)) = false := by simp [haM]
            have qt : (((t : Nat) : Int) != ((M : Nat) : Int)) = false := by simp [htM]
            have hz1 : errAt l M (i + 1) = 0 := by rw [HER1.out, HWR.out, if_neg hbad]
            have HZ1 := Lib.hid hz1
            clear hbad haM htM hz1
            go_wp2_with (first
              | (go_at_call 52; refine HEI.out.mono ?_; rintro e w3 ⟨rfl, hb3⟩
                 have hown3 := ownsRow_below hown hb3
                 have hb23 := hb.trans (hb3.mono hb.size))
              | (at_builtin; refine wpL_app (m := 48) (y := .slice (some ⟨b, o + (i * 64 + 8), none⟩) 48 (c - (i * 64 + 8))) rfl (.tmp 65) (.tmp 74) _ _ rfl E_u8 rfl (by first | rfl | (simp; omega)) hown3 ((HPC.out.below (hb3.mono hb0.size)).src Try.underlying38 (u8s_one _)) (by unfold maxLen; omega) (by omega) hb23.size ?_; intro v4 w4 hown4 hg4 hat4)
              | fail)
            go_roundw
            case rel => exact ⟨i + 1, by omega, by go_num, HZ1, by rw [pieces, u8s_app, show 48 * (i + 1) = 48 * i + 48 from by omega]; exact hown4, hb23.grown hg4 hb23.size (fun q e => (hown3.lt q e).1)⟩
            case measure => simp [intOf]; omega
        · obtain rfl : i = k := by omega
          have hjg := HJG.out herr.out
          have hpl := pieces_len l i (by rw [HLN.out]; exact hkn)
          obtain ⟨P, hP⟩ : ∃ P, P = pieces l i := ⟨_, rfl⟩
          rw [← hP] at hjg hpl hown
          have hx8 : x + 8 ≤ 48 * i := by have := HK2.out; have := HX.out; omega
          obtain ⟨A5, c5, rfl⟩ := ownsRow_form hown
          have hrP := ownsRow_rd hown
          have hr1 := hrP.pre (k := x + 8) hx8
          rw [← u8s_take] at hr1
          have hO := ropen_any _ _ _ _ wr hr1 (by omega)
          have hlen := openOf_len (P.take (x + 8))
          have h12 : (openOf (P.take (x + 8))).2 ≠ 0 → openOf (P.take (x + 8)) = ([], 12) := by
            intro hh
            unfold openOf at hh ⊢
            rw [if_neg (by rw [List.length_take]; omega)] at hh ⊢
            split at hh
            · exact absurd rfl hh
            · rename_i hne
              rw [if_neg hne]
          rw [List.length_take, Nat.min_eq_left (by omega)] at hlen
          have hc5 := hrP.1
          have j1 : (x : Int) + 8 ≤ (c5 : Int) := by omega
          have j2 : ((x : Int) + 8).toNat = x + 8 := by omega
          have j3 : (0 : Int) ≤ (x : Int) + 8 := by omega
          have hop : openedOf P x = if (openOf (P.take (x + 8))).2 ≠ 0 then ([], (openOf (P.take (x + 8))).2) else if hasNZ (P.drop (x + 8)) then ([], 10) else ((openOf (P.take (x + 8))).1.drop 4, 0) := rfl
          rw [hop] at hjg
          generalize hoo : openOf (P.take (x + 8)) = r at *
          obtain ⟨t, E⟩ := r
          dsimp only at hO hlen h12 hjg
          have HO := Lib.hid hO
          have HPL := Lib.hid hpl
          have hzw := hb0.size
          by_cases hE0 : E = 0
          · subst hE0
            rw [if_neg (show ¬ (0 : Int) ≠ 0 by simp)] at hjg
            obtain ⟨hl1, _⟩ := hlen rfl
            have HTL := Lib.hid (show t.length = x + 4 by omega)
            obtain ⟨R, hR⟩ : ∃ R, R = P.drop (x + 8) := ⟨_, rfl⟩
            rw [← hR] at hjg
            have hRl : R.length = 48 * i - (x + 8) := by rw [hR, List.length_drop, hpl]
            have hR0 := hrP.cut (k := x + 8) (m := 48 * i - (x + 8)) (by omega)
            have HJ2 := Lib.hid hjg
            have HRL := Lib.hid hRl
            have HR := Lib.hid hR
            have HRP := Lib.hid hrP
            clear hjg hO hlen h12 hop hpl hoo hl1 hP hown hR hRl hR0 hr1 hrP herr
            go_wp2_with (first
              | (go_at_call 55; refine HO.out.mono ?_; rintro e w5 ⟨A6, n6, c6, rfl, hn6, hr6, hb6⟩
                 have hn6' := hn6.trans HTL.out
                 clear hn6
                 subst hn6'
                 obtain ⟨b3, o3, rfl, hb3, hc3⟩ := hr6.2.2.2 (by omega))
              | fail)
            have hb06 := hb0.trans (hb6.mono hzw)
            have HB06 := Lib.hid hb06
            have hr7 := hr6.cut (k := 4) (m := x) (by omega)
            rw [List.take_of_length_le (by rw [List.length_drop, hr6.len]; omega), ← u8s_drop, Option.map_some, addOff] at hr7
            have hr8 : c6 = 4 → Rd w5 w5.heap.size 1 (some ⟨b3, o3, none⟩) x 0 (u8s (t.drop 4)) := by
              intro e
              have := hr6.1
              have e1 : x = 0 := by omega
              have e2 : u8s (t.drop 4) = [] := List.eq_nil_of_length_eq_zero (by rw [hr7.len]; exact e1)
              rw [e1, e2]
              exact Rd.empty (Nat.zero_le _)
            have HR7 := Lib.hid hr7
            have HR8 := Lib.hid hr8
            have hc6 := hr6.1
            clear hr7 hr8
            go_loopw [16] (fun jr wr => ∃ j : Nat, j ≤ 48 * i - (x + 8) ∧ jr = .int .i64 ((x + 8 + j : Nat) : Int) ∧ Hid (hasNZ (R.take j) = false) ∧ wr = w5) (fun jr _ => 48 * i - (intOf jr).toNat)
            case atStart => exact ⟨0, Nat.zero_le _, by simp, Lib.hid rfl, rfl⟩
            case round =>
              obtain ⟨j, hj, rfl, hnz, rfl⟩ := hrel
              obtain ⟨J, hJ⟩ : ∃ J, J = x + 8 + j := ⟨_, rfl⟩
              rw [← hJ]
              by_cases hjl : J < 48 * i
              · obtain ⟨b9, o9, u9, hA9, hb9, hu9, hc9⟩ := (HRP.out.below hb6).at_ (k := J) hjl
                obtain ⟨y, hy, rfl⟩ := u8s_get _ _ _ hu9
                have hy2 : R[j]? = some y := by rw [HR.out, List.getElem?_drop, ← hJ]; exact hy
                have hdj : decide ((J : Int) < ((48 * i : Nat) : Int)) = true := by simp; omega
                have hji : (J : Int) ≤ 1000000 := by omega
                have HJJ := Lib.hid hJ
                have HU := Lib.hid hu9
                subst hA9
                clear hu9 hy hJ
                by_cases hy0 : y = 0
                · subst hy0
                  have qy : (((0 : UInt8).toNat : Int) != 0) = false := rfl
                  have hnz1 : hasNZ (R.take (j + 1)) = false := by
                    obtain ⟨hjR, e⟩ := List.getElem?_eq_some_iff.1 hy2
                    rw [List.take_succ_eq_append_getElem hjR, e]
                    unfold hasNZ
                    rw [List.any_append]
                    have := hnz.out
                    unfold hasNZ at this
                    rw [this]
                    rfl
                  have HN1 := Lib.hid hnz1
                  clear hy2 hnz1
                  go_wp2
                  go_roundw
                  case rel => exact ⟨j + 1, by have := HJJ.out; omega, by have := HJJ.out; go_num, HN1, trivial⟩
                  case measure => simp [intOf]; omega
                · have qy : ((y.toNat : Int) != 0) = true := by
                    simp only [bne_iff_ne, ne_eq]
                    intro e
                    exact hy0 (UInt8.toNat_inj.1 (by simpa using (by exact_mod_cast e : y.toNat = 0)))
                  have hr : Hid (readOf l = (0, [], 10)) := Lib.hid (by
                    have : hasNZ R = true := by
                      unfold hasNZ
                      rw [List.any_eq_true]
                      exact ⟨y, List.mem_of_getElem? hy2, by simpa using hy0⟩
                    rw [HJ2.out, this]
                    rfl)
                  clear hy2 hy0
                  go_wp2
                  refine bodyPost_ret (results_tmp3 rfl _ _ _) rfl ?_
                  exact tells_early hr HB06.out
              · have hdj : decide ((J : Int) < ((48 * i : Nat) : Int)) = false := by simp; omega
                have hji : (J : Int) ≤ 1000000 := by omega
                have hr : Hid (readOf l = (M, t.drop 4, 0)) := Lib.hid (by
                  have : hasNZ R = false := by
                    have := hnz.out
                    rwa [List.take_of_length_le (by rw [HRL.out]; omega)] at this
                  rw [HJ2.out, this]
                  rfl)
                have hfl : (t.drop 4).length = x := by rw [List.length_drop, HTL.out]; omega
                have HFL := Lib.hid hfl
                clear hJ hj hfl
                go_wp2
                go_quiet (fail)
                all_goals go_wp2
                all_goals refine bodyPost_ret (results_tmp3 rfl _ _ _) rfl ?_
                all_goals rw [hr.out]
                all_goals first
                  | exact ⟨_, _, _, rfl, HFL.out.symm, HR7.out.drewN _, below_drewN HB06.out _⟩
                  | exact ⟨_, _, _, rfl, HFL.out.symm, (HR8.out (by omega)).drewN _, below_drewN HB06.out _⟩
          · have hr : Hid (readOf l = (0, [], 12)) := Lib.hid (by
              have e := h12 hE0
              simp only [Prod.mk.injEq] at e
              rw [hjg, if_pos hE0]
              simp only
              rw [if_pos hE0, e.2])
            obtain ⟨rfl, rfl⟩ : t = [] ∧ E = 12 := by have e := h12 hE0; simpa using e
            clear hjg hO hlen h12 hop hpl hoo hP hown hr1 hrP herr hE0
            go_wp2_with (first
              | (go_at_call 55; refine HO.out.mono ?_; rintro e w5 ⟨A6, n6, c6, rfl, hn6, hr6, hb6⟩)
              | fail)
            refine bodyPost_ret (results_tmp3 rfl _ _ _) rfl ?_
            exact tells_early hr (hb0.trans (hb6.mono hzw))

end Go.Proofs.Ytddnjlnhnnpgiaa

namespace Go.Proofs.Ytddnjlnhnnpgiaa
set_option maxRecDepth 20000
open Go.RowKit
attribute [local go_sem] Oper.semAt_some

theorem ends_short (l : List UInt8) (h : l.length < 64) : headsOf l = 0 ∧ tailsOf l = 0 := by
  unfold headsOf tailsOf
  rw [if_pos h, if_pos h]
  exact ⟨rfl, rfl⟩
theorem mostOf_ceil (l : List UInt8) : mostOf l ((l.length + 63) / 64) = mostOf l (l.length / 64) := by
  rcases Nat.lt_or_ge (l.length / 64) ((l.length + 63) / 64) with h | h
  · have e : (l.length + 63) / 64 = l.length / 64 + 1 := by omega
    rw [e, mostOf]
    have hs := ends_short (sect l (l.length / 64)) (by unfold sect; rw [List.length_take, List.length_drop]; omega)
    rw [hs.1, hs.2]
    omega
  · have e : (l.length + 63) / 64 = l.length / 64 := by omega
    rw [e]

/-- Between two rounds. -/
structure MJ (w : World) (A : Option Addr) (n c : Nat) (l : List UInt8) (k : Nat) (W : World) : Prop where
  num : W.heap[w.heap.size]? = some (.cells #[.int .u64 ((mostOf l k : Nat) : Int)] 60 (0, 0))
  b1 : W.heap[w.heap.size + 1]? = some (.cells #[.slice A n c] 38 (0, 0))
  b2 : W.heap[w.heap.size + 2]? = some (.cells #[.int .i64 64] 3 (0, 0))
  bel : Below w.heap.size w W
theorem MJ.step {w W W' : World} {n c k : Nat} {A : Option Addr} {l : List UInt8} (h : MJ w A n c l k W) {row : Option Nat} (hg : W.grownBy W' row) (hr : ∀ r, row = some r → w.heap.size + 3 ≤ r) : MJ w A n c l k W' := by
  have far : ∀ b, b < w.heap.size + 3 → some b ≠ row := fun b hb e => by have := hr b e.symm; omega
  exact ⟨row_far h.num hg (far _ (by omega)), row_far h.b1 hg (far _ (by omega)), row_far h.b2 hg (far _ (by omega)), h.bel.grown hg h.bel.size (fun r e => by have := hr r e; omega)⟩
theorem MJ.below {w W W' : World} {n c k : Nat} {A : Option Addr} {l : List UInt8} (h : MJ w A n c l k W) (hb : Below W.heap.size W W') : MJ w A n c l k W' :=
  h.step (below_grown hb none) (fun r e => by cases e)
theorem MJ.drewN {w W : World} {n c k : Nat} {A : Option Addr} {l : List UInt8} (h : MJ w A n c l k W) (d : Nat) : MJ w A n c l k (W.drewN d) :=
  h.below ⟨rfl, rfl, rfl, Nat.le_refl _, fun _ _ => rfl⟩
theorem MJ.robust {w : World} {n c k : Nat} {A : Option Addr} {l : List UInt8} : Robust (w.heap.size + 3) (MJ w A n c l k) := fun W r o h hr hlt =>
  h.step (grownBy_putObj' W r o) (fun q e => by have := Option.some.inj e; omega)

theorem MJ.put {w W W2 : World} {n c x : Nat} {A : Option Addr} {l : List UInt8} (hJ : MJ w A n c l x W) (hb2 : Below W.heap.size W W2) (hlt : w.heap.size + 3 + 1 < W.heap.size) (v : Nat) (hv : v = mostOf l (x + 1)) :
    KeepsRec (w.heap.size + 3) W (W2.setCell ⟨w.heap.size, 0, none⟩ (.int .u64 (v : Int))) ∧ MJ w A n c l (x + 1) (W2.setCell ⟨w.heap.size, 0, none⟩ (.int .u64 (v : Int))) := by
  have gs := setCell_grown W2 w.heap.size (.int .u64 (v : Int))
  have hJ2 := hJ.below hb2
  have hz2 := hb2.size
  refine ⟨(KeepsRec.below hb2 (by omega)).trans (KeepsRec.grown gs (by omega) (fun r hr => by have := Option.some.inj hr; omega)), ?_, row_far hJ2.b1 gs (fun e => by have := Option.some.inj e; omega), row_far hJ2.b2 gs (fun e => by have := Option.some.inj e; omega), hJ2.bel.grown gs hJ2.bel.size (fun q e => by have := Option.some.inj e; omega)⟩
  rw [heap_setCell_same W2 w.heap.size 0 _ _ _ hJ2.num, hv]
  rfl

set_option maxHeartbeats 4000000 in
set_option maxRecDepth 8000 in
theorem most_any (A : Option Addr) (n c : Nat) (l : List UInt8) (w : World) (h : Rd w w.heap.size 1 A n c (u8s l)) (hn : n ≤ 1000000) :
    Calls Try.prog 27 #[.slice A n c] w fun e w' => e = .returned (.int .u64 ((mostOf l (n / 64) : Nat) : Int)) ∧ Below w.heap.size w w' := by
  have hln : l.length = n := by have := h.len; rwa [u8s_len] at this
  have hceil := mostOf_ceil l
  rw [hln] at hceil
  rw [← hceil]
  have HLN := Lib.hid hln
  clear hceil hln
  obtain ⟨b, o, hA, hcell⟩ : ∃ b o, (0 < n → A = some ⟨b, o, none⟩) ∧ ∀ W, Below w.heap.size w W → ∀ k, 64 * k < n → Rd W W.heap.size 1 (some ⟨b, o + 64 * k, none⟩) (min 64 (n - 64 * k)) (min 64 (n - 64 * k)) (u8s (sect l k)) := by
    by_cases h0 : 0 < n
    · obtain ⟨b, o, rfl, hb, _⟩ := h.2.2.2 h0
      refine ⟨b, o, fun _ => rfl, fun W hW k hk => ?_⟩
      have h1 := ((h.below hW).more hW.size).cut (k := 64 * k) (m := min 64 (n - 64 * k)) (by omega)
      have e : ((u8s l).drop (64 * k)).take (min 64 (n - 64 * k)) = u8s (sect l k) := by
        unfold sect
        rw [u8s_take, u8s_drop]
        rcases Nat.le_total 64 (n - 64 * k) with h2 | h2
        · rw [Nat.min_eq_left h2]
        · rw [Nat.min_eq_right h2, List.take_of_length_le (by rw [List.length_drop, u8s_len, HLN.out]; exact Nat.le_refl _), List.take_of_length_le (by rw [List.length_drop, u8s_len, HLN.out]; exact h2)]
      rw [e, Option.map_some, addOff] at h1
      exact ⟨Nat.le_refl _, by unfold maxLen; omega, h1.2.2.1, h1.2.2.2⟩
    · exact ⟨0, 0, fun h => absurd h h0, fun W _ k hk => by omega⟩
  have HA := Lib.hid hA
  have HC := Lib.hid hcell
  clear hA hcell
  obtain ⟨P, hP⟩ : ∃ P : Ending → World → Prop, P = fun e w' => e = .returned (.int .u64 ((mostOf l ((n + 63) / 64) : Nat) : Int)) ∧ Below w.heap.size w w' := ⟨_, rfl⟩
  rw [← hP]
  have HPP := Lib.hid hP
  clear hP
  refine (callsIn_wide (n := 9)).1 ?_
  refine callsIn_of_wp_marks Try.func27 rfl trivial ?_ rfl
  simp only [Try.ntmps27, List.size_toArray, List.length_nil, List.length_cons, Nat.reduceAdd, Nat.reduceSub, Array.replicate_succ, Array.replicate_zero, List.push_toArray, List.append_toArray, List.nil_append, List.cons_append]
  gi_wp2_with (first
    | (refine ⟨trivial, ?_⟩; gi_at_call 49; refine (callsIn_wide.2 (chunk_any _ _ _ _)).mono ?_; rintro e w5 ⟨rfl, hr5, hr6, hz5, hb5⟩))
  have hb0 : Below w.heap.size w (w.alloc (.cells #[.int .u64 0] 60)) := (Below.refl _ _).alloc (Nat.le_refl _) _
  have g0 : (w.alloc (.cells #[.int .u64 0] 60)).heap[w.heap.size]? = some (.cells #[.int .u64 0] 60 (0, 0)) := heap_alloc_new w _
  simp only [World.size_alloc] at hr5 hr6 hz5 hb5
  have hb5' : Below (w.alloc (.cells #[.int .u64 0] 60)).heap.size (w.alloc (.cells #[.int .u64 0] 60)) w5 := by simpa using hb5
  have hJ0 : MJ w A n c l 0 w5 := ⟨row_below g0 hb5', hr5, hr6, hb0.trans (hb5'.mono (by simp))⟩
  have hz0 : w5.heap.size = w.heap.size + 3 := by omega
  clear hr5 hr6 hz5 hb5 hb5' g0 hb0
  refine wpIn_rangeJ rfl (by omega) (gf := 71) (lb := #[.pointer (some ⟨w.heap.size + 1, 0, none⟩), .pointer (some ⟨w.heap.size + 2, 0, none⟩)]) rfl trivial (enters_of Try.func71 (by kernel_rfl) rfl)
    (encs := fun x : Nat => #[chunkw b o n x]) (fun _ => rfl)
    (fun j => MJ w A n c l j) (fun j x W => x = j ∧ MJ w A n c l j W)
    (fun _ _ => False) ((n + 63) / 64) ?hJ ?hJ' ?hJx ?h0 ?hiter
    (fun x => { tmps := #[.slice A n c, undef, .int .u64 0, .pointer (some ⟨w.heap.size, 0, none⟩), chunkw b o n x, undef, undef, .slice A n c, .func (.func 71) #[] #[.pointer (some ⟨w.heap.size + 1, 0, none⟩), .pointer (some ⟨w.heap.size + 1 + 1, 0, none⟩)], chunkw b o n x, undef, undef, undef, undef, undef, undef, undef, undef, undef, undef], defers := [] })
    ?assign ?body ?done ?stop
  case hJ =>
    rw [hz0]
    exact fun j => MJ.robust
  case hJ' =>
    rw [hz0]
    exact fun j x W r o' hh hr hl => ⟨hh.1, MJ.robust W r o' hh.2 hr hl⟩
  case hJx => exact fun c W r o hh _ _ => hh.elim
  case h0 =>
    intro o1 o2
    exact (hJ0.below ((Below.refl _ _).alloc (Nat.le_refl _) _)).below ((Below.refl _ _).alloc (Nat.le_refl _) _)
  case hiter =>
    intro l0 R Rx hR hY hRs hRx W hJW hRW
    refine (chunk2_in 8 l0 (w.heap.size + 1) (w.heap.size + 2) b o n c A HA.out (fun j => MJ w A n c l j) R Rx (by omega) h.1 hn ?_ ?_ ?_ W hJW hRW)
    · exact fun j W hJ _ => ⟨cell_of_row W _ 0 _ _ _ hJ.b1, cell_of_row W _ 0 _ _ _ hJ.b2⟩
    · exact fun j W d hJ hRj => ⟨hJ.drewN d, hR _ _ hRj ⟨Nat.le_refl _, rfl, rfl⟩⟩
    · exact fun j W hj hJ hRj => hY j j W (by omega) ⟨rfl, hJ⟩ hRj
  case assign =>
    intro l0 x W K hK
    gi_wp2
    exact hK
  case body =>
    rintro l0 j x W hj ⟨rfl, hJ⟩ hlt2
    rw [hz0] at hlt2
    have hsl := HC.out W hJ.bel x (by omega)
    unfold chunkw
    have hE := ends_any _ _ _ _ W hsl (by omega)
    obtain ⟨m, hm⟩ : ∃ m, m = min 64 (n - 64 * x) := ⟨_, rfl⟩
    rw [← hm] at hE ⊢
    have e3 : mostOf l (x + 1) = max (mostOf l x) (max (headsOf (sect l x)) (tailsOf (sect l x))) := rfl
    obtain ⟨q, hq⟩ : ∃ q, q = mostOf l x := ⟨_, rfl⟩
    obtain ⟨a, ha⟩ : ∃ a, a = headsOf (sect l x) := ⟨_, rfl⟩
    obtain ⟨t, ht⟩ : ∃ t, t = tailsOf (sect l x) := ⟨_, rfl⟩
    rw [← ha, ← ht] at hE
    rw [← hq, ← ha, ← ht] at e3
    have HE := Lib.hid hE
    have HE3 := Lib.hid e3
    have hcq : W.cell? ⟨w.heap.size, 0, none⟩ = some (.int .u64 (q : Int)) := by rw [hq]; exact cell_of_row W _ 0 _ _ _ hJ.num
    have HJ := Lib.hid hJ
    clear hE e3 hq ha ht hm hsl hJ
    gi_wp2_with (first
      | (refine ⟨trivial, ?_⟩; gi_at_call 50; refine (CallsIn.inRound l0 (callsIn_wide.2 HE.out)).mono ?_; rintro e W2 ⟨rfl, hb2⟩
         have hJ2 := HJ.out.below hb2
         have d5 : W2.cell? ⟨w.heap.size, 0, none⟩ = some (.int .u64 (q : Int)) := (hb2.cell (p := ⟨w.heap.size, 0, none⟩) (by show w.heap.size < W.heap.size; omega)).trans hcq
         have f5 : W2.frozen? ⟨w.heap.size, 0, none⟩ = false := frozen_of_row W2 _ 0 _ _ hJ2.num))
    all_goals refine MJ.put HJ.out hb2 hlt2 _ ?_
    all_goals rw [HE3.out]
    all_goals first
      | omega
      | (rename_i h1 h2; first | (rw [if_pos h2] at h1; omega) | (rw [if_neg h2] at h1; omega))
      | (rename_i h1; split at h1 <;> omega)
  case done =>
    intro W hJ hk
    have d0 : W.cell? ⟨w.heap.size, 0, none⟩ = some (.int .u64 ((mostOf l ((n + 63) / 64) : Nat) : Int)) := cell_of_row W _ 0 _ _ _ hJ.num
    have HJ := Lib.hid hJ
    clear hJ
    rw [hz0] at hk ⊢
    gi_wp2
    have gd := grownBy_putObj' W (w.heap.size + 3) (.deferred none)
    refine ⟨by simp, .inl ⟨_, _, rfl, run_takeDeferred hk, ?_⟩⟩
    refine ⟨_, results_tmp (fn := Try.f27) rfl _ _ _, ?_⟩
    rw [HPP.out]
    exact ⟨rfl, HJ.out.bel.grown gd HJ.out.bel.size (fun q e => by have := Option.some.inj e; omega)⟩
  case stop => exact fun c W hh _ => hh.elim

end Go.Proofs.Ytddnjlnhnnpgiaa

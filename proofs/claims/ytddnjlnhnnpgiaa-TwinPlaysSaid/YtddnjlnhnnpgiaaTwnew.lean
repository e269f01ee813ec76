/- What the reference reads is new. -/
import Derived.Test.YtddnjlnhnnpgiaaTwrsZ
namespace Go.Proofs.Ytddnjlnhnnpgiaa
set_option maxRecDepth 20000
open Go.RowKit

def TellsF (L : Nat) (w : World) (t : List UInt8) (E : Int) (e : Ending) (w' : World) : Prop :=
  ∃ A n c, e = .returned (.tuple #[.slice A n c, .int .i64 E]) ∧ n = t.length ∧ Rd w' w'.heap.size 1 A n c (u8s t) ∧ Below w.heap.size w w' ∧ ∀ b o, A = some ⟨b, o, none⟩ → L ≤ b
def Tells3F (w : World) (r : Nat × List UInt8 × Int) (e : Ending) (w' : World) : Prop :=
  ∃ A n c, e = .returned (.tuple #[.int .u64 ((r.1 : Nat) : Int), .slice A n c, .int .i64 r.2.2]) ∧ n = r.2.1.length ∧ Rd w' w'.heap.size 1 A n c (u8s r.2.1) ∧ Below w.heap.size w w' ∧ ∀ b o, A = some ⟨b, o, none⟩ → w.heap.size ≤ b
set_option maxHeartbeats 4000000
theorem ropenF_short (L : Nat) (A : Option Addr) (_ : ∀ b o, A = some ⟨b, o, none⟩ → L ≤ b) (n c : Nat) (w : World) (hn : n < 4) :
    Calls Try.prog 55 #[.slice A n c] w (TellsF L w [] 10) := by
  go_enter Try.func55, Try.ntmps55
  go_wp2
  go_ret2
  exact ⟨_, _, _, rfl, rfl, Rd.nil_, Below.refl _ _, fun b o e => by cases e⟩

theorem ropenF_long (L : Nat) (A : Option Addr) (hA : ∀ b o, A = some ⟨b, o, none⟩ → L ≤ b) (n c : Nat) (l : List UInt8) (w : World) (h : Rd w w.heap.size 1 A n c (u8s l)) (hn : n ≤ 500000) (h4 : 4 ≤ n) :
    Calls Try.prog 55 #[.slice A n c] w (TellsF L w (openOf l).1 (openOf l).2) := by
  have HAA := Lib.hid hA
  clear hA
  have hln : l.length = n := by have := h.len; rwa [u8s_len] at this
  have hnc : (n : Int) ≤ (c : Int) := by have := h.1; omega
  have hrt : Rd w w.heap.size 1 A (n - 4) c (u8s (l.take (n - 4))) := by rw [u8s_take]; exact h.pre (by omega)
  have hiff := sealed_iff l (by omega)
  have hopen : openOf l = if unle (l.drop (n - 4)) = more 0 (l.take (n - 4)) then (l.take (n - 4), 0) else ([], 12) := by
    unfold openOf
    rw [hln, if_neg (by omega)]
  rw [hln] at hiff
  have HO := Lib.hid hopen
  clear hopen
  by_cases hs : sealOf (l.take (n - 4)) = l
  · have h1 := hiff.1 hs
    have q1 : ((str (sealOf (l.take (n - 4)))).toList == (str l).toList) = true := by rw [hs]; exact beq_self_eq_true _
    have H1 := Lib.hid h1
    have HLN := Lib.hid hln
    clear h1 hiff hs hln
    go_enter Try.func55, Try.ntmps55
    go_wp2
    refine wp_grow [([0, 3, 4], 1)] [2, 5] (by kernel_rfl) (by kernel_rfl) (fun d _ _ _ _ h => by cases d <;> exact h) fun wd hbd => ?_
    have hzd := hbd.size
    intro f hf
    have F1 := fun z => run_str (P := Try.prog) Try.underlying38 Try.underlying5 Try.underlying9 (h.below (hf z))
    simp only [pickI, Option.toList_some, List.cons_append, List.nil_append, List.getElem?_toArray, List.getElem?_cons_succ, List.getElem?_cons_zero]
    repeat (go_big_quiet_step (fail))
    refine wpQuiet_nil ?_
    clear F1 hf f
    refine seg_op (by simp only [List.getElem?_toArray, List.getElem?_cons_succ, List.getElem?_cons_zero]; rfl) fun K hK => ?_
    go_simp
    refine (rseal_any _ _ _ _ _ ((hrt.below hbd).more hzd) (by omega)).mono ?_
    rintro e w2 ⟨v2, rfl, hown2, hb2⟩
    rw [show n - 4 + 4 = n from by omega] at hown2
    obtain ⟨A2, c2, rfl⟩ := ownsRow_form hown2
    have hr2 := ownsRow_rd hown2
    refine hK.out _ _ ⟨fun x => Below w2.heap.size w2 x, Below.refl _ _, fun x hx => hbd.trans ((hb2.trans (hx.mono hb2.size)).mono hzd), ?_⟩
    clear hK K
    intro f hf
    have F2 := fun z => run_str (P := Try.prog) Try.underlying38 Try.underlying5 Try.underlying9 (hr2.below (hf z))
    simp only [pickI, Option.toList_some, List.cons_append, List.nil_append, List.getElem?_toArray, List.getElem?_cons_succ, List.getElem?_cons_zero]
    repeat (go_big_quiet_step (fail))
    refine wpQuiet_nil ?_
    clear F2 hf f
    go_wp2
    go_ret2
    have hb02 := hbd.trans (hb2.mono hzd)
    rw [HO.out, if_pos H1.out]
    exact ⟨_, _, _, rfl, by rw [List.length_take, HLN.out]; omega, (hrt.below hb02).more hb02.size, hb02, HAA.out⟩
  · have h1 := fun x => hs (hiff.2 x)
    have q1 : ((str (sealOf (l.take (n - 4)))).toList == (str l).toList) = false := by
      rw [beq_eq_false_iff_ne]
      intro e
      exact hs (str_inj e)
    have H1 := Lib.hid h1
    clear h1 hiff hs hln
    go_enter Try.func55, Try.ntmps55
    go_wp2
    refine wp_grow [([0, 3, 4], 1)] [2, 5] (by kernel_rfl) (by kernel_rfl) (fun d _ _ _ _ h => by cases d <;> exact h) fun wd hbd => ?_
    have hzd := hbd.size
    intro f hf
    have F1 := fun z => run_str (P := Try.prog) Try.underlying38 Try.underlying5 Try.underlying9 (h.below (hf z))
    simp only [pickI, Option.toList_some, List.cons_append, List.nil_append, List.getElem?_toArray, List.getElem?_cons_succ, List.getElem?_cons_zero]
    repeat (go_big_quiet_step (fail))
    refine wpQuiet_nil ?_
    clear F1 hf f
    refine seg_op (by simp only [List.getElem?_toArray, List.getElem?_cons_succ, List.getElem?_cons_zero]; rfl) fun K hK => ?_
    go_simp
    refine (rseal_any _ _ _ _ _ ((hrt.below hbd).more hzd) (by omega)).mono ?_
    rintro e w2 ⟨v2, rfl, hown2, hb2⟩
    rw [show n - 4 + 4 = n from by omega] at hown2
    obtain ⟨A2, c2, rfl⟩ := ownsRow_form hown2
    have hr2 := ownsRow_rd hown2
    refine hK.out _ _ ⟨fun x => Below w2.heap.size w2 x, Below.refl _ _, fun x hx => hbd.trans ((hb2.trans (hx.mono hb2.size)).mono hzd), ?_⟩
    clear hK K
    intro f hf
    have F2 := fun z => run_str (P := Try.prog) Try.underlying38 Try.underlying5 Try.underlying9 (hr2.below (hf z))
    simp only [pickI, Option.toList_some, List.cons_append, List.nil_append, List.getElem?_toArray, List.getElem?_cons_succ, List.getElem?_cons_zero]
    repeat (go_big_quiet_step (fail))
    refine wpQuiet_nil ?_
    clear F2 hf f
    go_wp2
    go_ret2
    have hb02 := hbd.trans (hb2.mono hzd)
    rw [HO.out, if_neg H1.out]
    exact ⟨_, _, _, rfl, rfl, Rd.nil_, hb02, fun b o e => by cases e⟩

theorem ropenF_any (L : Nat) (A : Option Addr) (hA : ∀ b o, A = some ⟨b, o, none⟩ → L ≤ b) (n c : Nat) (l : List UInt8) (w : World) (h : Rd w w.heap.size 1 A n c (u8s l)) (hn : n ≤ 500000) :
    Calls Try.prog 55 #[.slice A n c] w (TellsF L w (openOf l).1 (openOf l).2) := by
  by_cases h4 : n < 4
  · have hln : l.length = n := by have := h.len; rwa [u8s_len] at this
    have e : openOf l = ([], 10) := by unfold openOf; rw [if_pos (by omega)]
    rw [e]
    exact ropenF_short L A hA n c w h4
  · exact ropenF_long L A hA n c l w h hn (by omega)

theorem tellsF_early {w w' : World} {l : List UInt8} {E : Int} (h : Hid (readOf l = (0, [], E))) (hb : Below w.heap.size w w') : Tells3F w (readOf l) (.returned (.tuple #[.int .u64 0, .slice none 0 0, .int .i64 E])) w' := by
  rw [h.out]
  exact ⟨none, 0, 0, rfl, rfl, Rd.nil_, hb, fun b o e => by cases e⟩
theorem rreadF_short (A : Option Addr) (n c : Nat) (l : List UInt8) (w : World) (hln : l.length = n) (hs : n < 64) : Calls Try.prog 30 #[.slice A n c] w (Tells3F w (readOf l)) := by
  have hi : (n : Int) < 64 := by omega
  have hr : Hid (readOf l = (0, [], 10)) := Lib.hid (by
    have e : sizeOf l = (0, 10) := by unfold sizeOf; rw [if_pos (by omega)]
    rw [readOf_size l (by rw [e]; simp), e])
  clear hln
  go_enter Try.func30, Try.ntmps30
  go_wp2
  refine bodyPost_ret (results_tmp3 rfl _ _ _) rfl ?_
  exact tellsF_early hr (Below.refl _ _)
theorem rreadF_ends (A : Option Addr) (n c : Nat) (l : List UInt8) (w : World) (h : Rd w w.heap.size 1 A n c (u8s l)) (hn : n ≤ 1000000) (hs : 64 ≤ n) (hw : headsOf l ≠ tailsOf l ∨ headsOf l = 0) : Calls Try.prog 30 #[.slice A n c] w (Tells3F w (readOf l)) := by
  have hln : l.length = n := by have := h.len; rwa [u8s_len] at this
  have hd : decide ((n : Int) < 64) = false := by simp; omega
  have hE := rends_any A n c l w h hn
  have hr : Hid (readOf l = (0, [], if headsOf l ≠ tailsOf l then 13 else 40)) := Lib.hid (by
    have e : sizeOf l = (0, if headsOf l ≠ tailsOf l then 13 else 40) := by
      have ew : wrongOf l (headsOf l) = if headsOf l ≠ tailsOf l then 13 else 40 := by
        unfold wrongOf
        by_cases hne : headsOf l ≠ tailsOf l
        · rw [if_pos (.inl hne), if_pos hne]
        · rw [if_neg (by simpa using hne), if_neg hne, if_pos (hw.resolve_left hne)]
      unfold sizeOf
      rw [if_neg (by omega), ew, if_pos (by split <;> decide)]
    rw [readOf_size l (by rw [e]; simp only; split <;> decide), e])
  generalize headsOf l = hd1 at *
  generalize tailsOf l = tl1 at *
  have HE := Lib.hid hE
  clear hE hln
  by_cases hne : hd1 = tl1
  · subst hne
    obtain rfl : hd1 = 0 := hw.resolve_left (by simp)
    rw [if_neg (by simp)] at hr
    go_enter Try.func30, Try.ntmps30
    go_wp2_with (go_at_call 52; refine HE.out.mono ?_; rintro e w1 ⟨rfl, hb1⟩)
    refine bodyPost_ret (results_tmp3 rfl _ _ _) rfl ?_
    exact tellsF_early hr hb1
  · rw [if_pos hne] at hr
    have q : (((hd1 : Nat) : Int) != ((tl1 : Nat) : Int)) = true := by simp; omega
    clear hne hw
    go_enter Try.func30, Try.ntmps30
    go_wp2_with (go_at_call 52; refine HE.out.mono ?_; rintro e w1 ⟨rfl, hb1⟩)
    refine bodyPost_ret (results_tmp3 rfl _ _ _) rfl ?_
    exact tellsF_early hr hb1

set_option maxHeartbeats 8000000 in
set_option maxRecDepth 8000 in
theorem rreadF_late (A : Option Addr) (n c : Nat) (l : List UInt8) (w : World) (h : Rd w w.heap.size 1 A n c (u8s l)) (hn : n ≤ 1000000) (hs : 64 ≤ n) (hht : headsOf l = tailsOf l) (hm0 : headsOf l ≠ 0) : Calls Try.prog 30 #[.slice A n c] w (Tells3F w (readOf l)) := by
  have hln : l.length = n := by have := h.len; rwa [u8s_len] at this
  have hd : decide ((n : Int) < 64) = false := by simp; omega
  have hE := rends_any A n c l w h hn
  obtain ⟨M, hM⟩ : ∃ M, M = headsOf l := ⟨_, rfl⟩
  rw [← hht, ← hM] at hE
  have hMlt : M < 18446744073709551616 := by rw [hM]; exact headsOf_lt l
  have q1 : (((M : Nat) : Int) != ((M : Nat) : Int)) = false := bne_self_eq_false _
  have q2 : (((M : Nat) : Int) == 0) = false := by simp; omega
  obtain ⟨b, o, rfl, hbl, hcell⟩ := h.2.2.2 (by omega)
  have hnc := h.1
  -- the size
  have h4 := h.cut (k := 8) (m := 4) (by omega)
  rw [← u8s_drop, ← u8s_take, Option.map_some, addOff] at h4
  have h4l : ((l.drop 8).take 4).length = 4 := by rw [List.length_take, List.length_drop]; omega
  have hsn : sizeNum l = unle ((l.drop 8).take 4) := by unfold sizeNum; rw [List.take_take]; rfl
  have hN := fun (w1 : World) (g : Nat) (hR : RefR w1 g (some ⟨b, o + 8, none⟩) 4 (c - 8) 0 false) (hr : Rd w1 w.heap.size 1 (some ⟨b, o + 8, none⟩) 4 (c - 8) (u8s ((l.drop 8).take 4))) (hg : w.heap.size ≤ g) => rnum_any w.heap.size g 4 (c - 8) 0 false _ ((l.drop 8).take 4) 4 w1 hR hr hg (by omega) (by omega) (by omega) (by omega)
  have hq1 := ref_num4 _ h4l
  obtain ⟨q, hq⟩ : ∃ q, q = (refSt ((l.drop 8).take 4) 0 false).num 4 := ⟨_, rfl⟩
  rw [← hq] at hq1
  simp only [← hq] at hN
  obtain ⟨x, qs⟩ := q
  dsimp only at hq1
  have hxs : sizeNum l = x := hsn.trans hq1.symm
  have hxlt : x < 4294967296 := by rw [← hxs]; exact sizeNum_lt l
  have hsz : sizeOf l = if 65536 < x then (0, 11) else (x, 0) := by
    have ew : wrongOf l (headsOf l) = 0 := by unfold wrongOf; rw [if_neg (by rw [hht]; simp), if_neg hm0]
    unfold sizeOf
    rw [if_neg (by omega), ew, if_neg (by simp), hxs]
  have HN := Lib.hid hN
  have HE := Lib.hid hE
  have H4 := Lib.hid h4
  have HXL := Lib.hid hxlt
  have hh := Lib.hid h
  clear hN hE h4 hq hq1 hsn hxs hcell h4l hxlt
  have hn8 : (c : Int) - 8 = ((c - 8 : Nat) : Int) := by omega
  by_cases hbig : 65536 < x
  · rw [if_pos hbig] at hsz
    have hr : Hid (readOf l = (0, [], 11)) := Lib.hid (by rw [readOf_size l (by rw [hsz]; simp), hsz])
    have d1 : decide ((65536 : Int) < (x : Int)) = true := by simp; omega
    have HS := Lib.hid hsz
    clear hbig hsz hht hm0 hM hMlt hn h hln
    go_enter Try.func30, Try.ntmps30
    go_wp2_with (first
      | (go_at_call 52; refine HE.out.mono ?_; rintro e w1 ⟨rfl, hb1⟩)
      | (go_at_call 53; refine (HN.out _ w1.heap.size (heap_alloc_new w1 _) (H4.out.below (hb1.alloc hb1.size _)) hb1.size).mono ?_; rintro e w2 ⟨a', b', rfl, hR2, ha2, hs2, hg2⟩)
      | fail)
    refine bodyPost_ret (results_tmp3 rfl _ _ _) rfl ?_
    exact tellsF_early hr ((hb1.alloc hb1.size _).grown hg2 (by have := hb1.size; simp; omega) (fun k e => by have := Option.some.inj e; have := hb1.size; omega))
  · rw [if_neg hbig] at hsz
    have d1 : decide ((65536 : Int) < (x : Int)) = false := by simp; omega
    obtain ⟨k, hk⟩ : ∃ k, k = sectorsOf (x : Int) := ⟨_, rfl⟩
    have hk2 := hk.trans (sectorsOf_at x (by omega))
    have hSec := fun w => rsectors_any (x : Int) w (by simp [Lit.wf, IntKind.min, IntKind.max, IntKind.signed, IntKind.bits]; omega)
    rw [← hk] at hSec
    have HSec := Lib.hid hSec
    have hki : (k : Int) ≤ 2000 := by omega
    have hx7 : (x : Int) ≤ 70000 := by omega
    have HX := Lib.hid (show x ≤ 65536 by omega)
    have HSZ := Lib.hid hsz
    have HM := Lib.hid hM
    have HK := Lib.hid hk
    by_cases hcut : n < 64 * k
    · have hr : Hid (readOf l = (0, [], 10)) := Lib.hid (by
        have ej : joinedOf l (sectorsOf x) (headsOf l) = ([], 10) := by rw [← hk, ← hM]; unfold joinedOf; rw [if_pos (by omega)]
        rw [readOf_join l x hsz (by rw [ej]; simp), ej])
      have d2 : decide ((n : Int) < (k : Int) * 64) = true := by simp; omega
      clear hbig hsz hht hm0 hM hMlt hn h hln hSec hk hk2 hcut
      go_enter Try.func30, Try.ntmps30
      go_wp2_with (first
        | (go_at_call 52; refine HE.out.mono ?_; rintro e w1 ⟨rfl, hb1⟩)
        | (go_at_call 53; refine (HN.out _ w1.heap.size (heap_alloc_new w1 _) (H4.out.below (hb1.alloc hb1.size _)) hb1.size).mono ?_; rintro e w2 ⟨a', b', rfl, hR2, ha2, hs2, hg2⟩)
        | (go_at_call 54; refine (HSec.out _).mono ?_; rintro e w0 ⟨rfl, rfl⟩)
        | fail)
      refine bodyPost_ret (results_tmp3 rfl _ _ _) rfl ?_
      exact tellsF_early hr ((hb1.alloc hb1.size _).grown hg2 (by have := hb1.size; simp; omega) (fun k e => by have := Option.some.inj e; have := hb1.size; omega))
    · have d2 : decide ((n : Int) < (k : Int) * 64) = false := by simp; omega
      have hjo : ∀ E, errAt l M k = E → E ≠ 0 → readOf l = (0, [], E) := by
        intro E hE hE0
        have ej : joinedOf l (sectorsOf x) (headsOf l) = ([], E) := by rw [← hk, ← hM]; unfold joinedOf; rw [if_neg (by omega), hE, if_pos hE0]
        rw [readOf_join l x hsz (by rw [ej]; exact hE0), ej]
      have hjg : errAt l M k = 0 → readOf l = if (openedOf (pieces l k) x).2 ≠ 0 then (0, [], (openedOf (pieces l k) x).2) else (M, (openedOf (pieces l k) x).1, 0) := by
        intro hE
        have ej : joinedOf l (sectorsOf x) (headsOf l) = (pieces l k, 0) := by rw [← hk, ← hM]; unfold joinedOf; rw [if_neg (by omega), hE, if_neg (by simp)]
        rw [readOf_open l x _ hsz ej, ← hM]
      have HJO := Lib.hid hjo
      have HJG := Lib.hid hjg
      have HLN := Lib.hid hln
      have HNN := Lib.hid hn
      have hkn : 64 * k ≤ n := by omega
      have HK2 := Lib.hid hk2
      have hkc : (k : Int) * 64 ≤ (c : Int) := by omega
      have HM0 := Lib.hid (show M ≠ 0 by rw [hM]; exact hm0)
      clear hbig hsz hht hm0 hM hMlt hn h hln hSec hk hk2 hcut hjo hjg
      go_enter Try.func30, Try.ntmps30
      go_wp2_with (first
        | (go_at_call 52; refine HE.out.mono ?_; rintro e w1 ⟨rfl, hb1⟩)
        | (go_at_call 53; refine (HN.out _ w1.heap.size (heap_alloc_new w1 _) (H4.out.below (hb1.alloc hb1.size _)) hb1.size).mono ?_; rintro e w2 ⟨a', b', rfl, hR2, ha2, hs2, hg2⟩)
        | (go_at_call 54; refine (HSec.out _).mono ?_; rintro e w0 ⟨rfl, rfl⟩)
        | fail)
      have hb02 : Below w.heap.size w w2 := (hb1.alloc hb1.size _).grown hg2 (by have := hb1.size; simp; omega) (fun k e => by have := Option.some.inj e; have := hb1.size; omega)
      have hown0 : w2.ownsRow w2.heap.size 5 1 (.slice none 0 0) 0 [] := World.ownsRow_nil _ _ _ _
      clear hR2 ha2 hs2 hg2 hb1
      have hz02 := hb02.size
      go_loopw [10, 11] (fun vr ir wr => ∃ i : Nat, i ≤ k ∧ ir = .int .i64 (i : Int) ∧ Hid (errAt l M i = 0) ∧ wr.ownsRow w2.heap.size 5 1 vr (48 * i) (u8s (pieces l i)) ∧ Below w2.heap.size w2 wr) (fun _ ir _ => k - (intOf ir).toNat)
      case atStart => exact ⟨0, Nat.zero_le _, rfl, Lib.hid rfl, hown0, Below.refl _ _⟩
      case round =>
        obtain ⟨i, hi, rfl, herr, hown, hb⟩ := hrel
        have hb0 := hb02.trans (hb.mono hz02)
        by_cases hlt : i < k
        · have hcut := (hh.out.below hb0).cut (k := i * 64) (m := n - i * 64) (by omega)
          rw [← u8s_drop, ← u8s_take, Option.map_some, addOff, List.take_of_length_le (by rw [List.length_drop, HLN.out]; exact Nat.le_refl _)] at hcut
          have hEi := rends_any _ _ _ _ wr (hcut.more hb0.size) (by have := HNN.out; omega)
          have hheads := heads_take (l.drop (i * 64)) (by rw [List.length_drop, HLN.out]; omega)
          have hsect : sect l i = (l.drop (i * 64)).take 64 := by unfold sect; rw [Nat.mul_comm]
          rw [← hsect] at hheads
          rw [← hheads.1, ← hheads.2] at hEi
          have hpc := (hh.out.below hb0).cut (k := i * 64 + 8) (m := 48) (by omega)
          have hpiece : (l.drop (i * 64 + 8)).take 48 = piece l i := by
            unfold piece sect
            rw [List.drop_take, List.take_take, List.drop_drop, Nat.mul_comm]
            rfl
          rw [← u8s_drop, ← u8s_take, Option.map_some, addOff, hpiece] at hpc
          have herr1 : errAt l M (i + 1) = wrongOf (sect l i) M := by rw [errAt, if_neg (by rw [herr.out]; simp)]
          have hstay := errAt_stays l M (i + 1) k (by omega)
          obtain ⟨a, ha⟩ : ∃ a, a = headsOf (sect l i) := ⟨_, rfl⟩
          obtain ⟨t, ht⟩ : ∃ t, t = tailsOf (sect l i) := ⟨_, rfl⟩
          rw [← ha, ← ht] at hEi
          have hwr : wrongOf (sect l i) M = if a ≠ M ∨ t ≠ M then 13 else 0 := by
            unfold wrongOf
            rw [← ha, ← ht]
            by_cases hbad : a ≠ M ∨ t ≠ M
            · rw [if_pos hbad, if_pos (by omega)]
            · rw [if_neg hbad, if_neg (by omega), if_neg HM0.out]
          have i0 : (0 : Int) ≤ (i : Int) * 64 := by omega
          have i1 : (i : Int) * 64 ≤ (n : Int) := by omega
          have i2 : (i : Int) * 64 ≤ (c : Int) := by omega
          have i3 : ((i : Int) * 64).toNat = i * 64 := by omega
          have i4 : ¬ c = i * 64 := by omega
          have i5 : ((i : Int) * 64 + 8).toNat = i * 64 + 8 := by omega
          have i6 : ((i : Int) * 64 + 8 + 48).toNat = i * 64 + 8 + 48 := by omega
          have i7 : (i : Int) * 64 + 8 + 48 ≤ (c : Int) := by omega
          have i8 : ¬ c = i * 64 + 8 := by omega
          have hii : (i : Int) ≤ 2000 := by omega
          have HEI := Lib.hid hEi
          have HPC := Lib.hid hpc
          have HER1 := Lib.hid herr1
          have HST := Lib.hid hstay
          have HWR := Lib.hid hwr
          clear hEi hpc hcut hheads hsect hpiece herr1 hstay ha ht hwr
          by_cases hbad : a ≠ M ∨ t ≠ M
          · have hr : Hid (readOf l = (0, [], 13)) := Lib.hid (HJO.out 13 (by rw [HST.out (by rw [HER1.out, HWR.out, if_pos hbad]; decide), HER1.out, HWR.out, if_pos hbad]) (by decide))
            by_cases haM : a = M
            · have htM : t ≠ M := by omega
              have qa : (((a : Nat) : Int) != ((M : Nat) : Int)) = false := by simp [haM]
              have qt : (((t : Nat) : Int) != ((M : Nat) : Int)) = true := by simp; omega
              have HaM := Lib.hid haM
              clear hbad haM htM
              go_wp2_with (first
                | (go_at_call 52; refine HEI.out.mono ?_; rintro e w3 ⟨rfl, hb3⟩)
                | fail)
              refine bodyPost_ret (results_tmp3 rfl _ _ _) rfl ?_
              exact tellsF_early hr (hb0.trans (hb3.mono hb0.size))
            · have qa : (((a : Nat) : Int) != ((M : Nat) : Int)) = true := by simp; omega
              clear hbad haM
              go_wp2_with (first
                | (go_at_call 52; refine HEI.out.mono ?_; rintro e w3 ⟨rfl, hb3⟩)
                | fail)
              refine bodyPost_ret (results_tmp3 rfl _ _ _) rfl ?_
              exact tellsF_early hr (hb0.trans (hb3.mono hb0.size))
          · have haM : a = M := by omega
            have htM : t = M := by omega
            have qa : (((a : Nat) : Int) != ((M : Nat) : Int)) = false := by simp [haM]
            have qt : (((t : Nat) : Int) != ((M : Nat) : Int)) = false := by simp [htM]
            have hz1 : errAt l M (i + 1) = 0 := by rw [HER1.out, HWR.out, if_neg hbad]
            have HZ1 := Lib.hid hz1
            clear hbad haM htM hz1
            go_wp2_with (first
              | (go_at_call 52; refine HEI.out.mono ?_; rintro e w3 ⟨rfl, hb3⟩
                 have hown3 := ownsRow_below hown hb3
                 have hb23 := hb.trans (hb3.mono hb.size))
              | (at_builtin; refine wpL_app (m := 48) (y := .slice (some ⟨b, o + (i * 64 + 8), none⟩) 48 (c - (i * 64 + 8))) rfl (.tmp 65) (.tmp 74) _ _ rfl E_u8 rfl (by first | rfl | (simp; omega)) hown3 ((HPC.out.below (hb3.mono hb0.size)).src Try.underlying38 (u8s_one _)) (by unfold maxLen; omega) (by omega) hb23.size ?_; intro v4 w4 hown4 hg4 hat4)
              | fail)
            go_roundw
            case rel => exact ⟨i + 1, by omega, by go_num, HZ1, by rw [pieces, u8s_app, show 48 * (i + 1) = 48 * i + 48 from by omega]; exact hown4, hb23.grown hg4 hb23.size (fun q e => (hown3.lt q e).1)⟩
            case measure => simp [intOf]; omega
        · obtain rfl : i = k := by omega
          have hjg := HJG.out herr.out
          have hpl := pieces_len l i (by rw [HLN.out]; exact hkn)
          obtain ⟨P, hP⟩ : ∃ P, P = pieces l i := ⟨_, rfl⟩
          rw [← hP] at hjg hpl hown
          have hx8 : x + 8 ≤ 48 * i := by have := HK2.out; have := HX.out; omega
          obtain ⟨A5, c5, rfl⟩ := ownsRow_form hown
          have hrP := ownsRow_rd hown
          have hr1 := hrP.pre (k := x + 8) hx8
          rw [← u8s_take] at hr1
          have hO := ropenF_any w.heap.size _ (fun b o e => by
            subst e
            have h9 := (hown.lt b rfl).1
            omega) _ _ _ wr hr1 (by omega)
          have hlen := openOf_len (P.take (x + 8))
          have h12 : (openOf (P.take (x + 8))).2 ≠ 0 → openOf (P.take (x + 8)) = ([], 12) := by
            intro hh
            unfold openOf at hh ⊢
            rw [if_neg (by rw [List.length_take]; omega)] at hh ⊢
            split at hh
            · exact absurd rfl hh
            · rename_i hne
              rw [if_neg hne]
          rw [List.length_take, Nat.min_eq_left (by omega)] at hlen
          have hc5 := hrP.1
          have j1 : (x : Int) + 8 ≤ (c5 : Int) := by omega
          have j2 : ((x : Int) + 8).toNat = x + 8 := by omega
          have j3 : (0 : Int) ≤ (x : Int) + 8 := by omega
          have hop : openedOf P x = if (openOf (P.take (x + 8))).2 ≠ 0 then ([], (openOf (P.take (x + 8))).2) else if hasNZ (P.drop (x + 8)) then ([], 10) else ((openOf (P.take (x + 8))).1.drop 4, 0) := rfl
          rw [hop] at hjg
          generalize hoo : openOf (P.take (x + 8)) = r at *
          obtain ⟨t, E⟩ := r
          dsimp only at hO hlen h12 hjg
          have HO := Lib.hid hO
          have HPL := Lib.hid hpl
          have hzw := hb0.size
          by_cases hE0 : E = 0
          · subst hE0
            rw [if_neg (show ¬ (0 : Int) ≠ 0 by simp)] at hjg
            obtain ⟨hl1, _⟩ := hlen rfl
            have HTL := Lib.hid (show t.length = x + 4 by omega)
            obtain ⟨R, hR⟩ : ∃ R, R = P.drop (x + 8) := ⟨_, rfl⟩
            rw [← hR] at hjg
            have hRl : R.length = 48 * i - (x + 8) := by rw [hR, List.length_drop, hpl]
            have hR0 := hrP.cut (k := x + 8) (m := 48 * i - (x + 8)) (by omega)
            have HJ2 := Lib.hid hjg
            have HRL := Lib.hid hRl
            have HR := Lib.hid hR
            have HRP := Lib.hid hrP
            clear hjg hO hlen h12 hop hpl hoo hl1 hP hown hR hRl hR0 hr1 hrP herr
            go_wp2_with (first
              | (go_at_call 55; refine HO.out.mono ?_; rintro e w5 ⟨A6, n6, c6, rfl, hn6, hr6, hb6, hf6⟩
                 have hn6' := hn6.trans HTL.out
                 clear hn6
                 subst hn6'
                 obtain ⟨b3, o3, rfl, hb3, hc3⟩ := hr6.2.2.2 (by omega)
                 have HF6 := Lib.hid (hf6 b3 o3 rfl)
                 clear hf6)
              | fail)
            have hb06 := hb0.trans (hb6.mono hzw)
            have HB06 := Lib.hid hb06
            have hr7 := hr6.cut (k := 4) (m := x) (by omega)
            rw [List.take_of_length_le (by rw [List.length_drop, hr6.len]; omega), ← u8s_drop, Option.map_some, addOff] at hr7
            have hr8 : c6 = 4 → Rd w5 w5.heap.size 1 (some ⟨b3, o3, none⟩) x 0 (u8s (t.drop 4)) := by
              intro e
              have := hr6.1
              have e1 : x = 0 := by omega
              have e2 : u8s (t.drop 4) = [] := List.eq_nil_of_length_eq_zero (by rw [hr7.len]; exact e1)
              rw [e1, e2]
              exact Rd.empty (Nat.zero_le _)
            have HR7 := Lib.hid hr7
            have HR8 := Lib.hid hr8
            have hc6 := hr6.1
            clear hr7 hr8
            go_loopw [16] (fun jr wr => ∃ j : Nat, j ≤ 48 * i - (x + 8) ∧ jr = .int .i64 ((x + 8 + j : Nat) : Int) ∧ Hid (hasNZ (R.take j) = false) ∧ wr = w5) (fun jr _ => 48 * i - (intOf jr).toNat)
            case atStart => exact ⟨0, Nat.zero_le _, by simp, Lib.hid rfl, rfl⟩
            case round =>
              obtain ⟨j, hj, rfl, hnz, rfl⟩ := hrel
              obtain ⟨J, hJ⟩ : ∃ J, J = x + 8 + j := ⟨_, rfl⟩
              rw [← hJ]
              by_cases hjl : J < 48 * i
              · obtain ⟨b9, o9, u9, hA9, hb9, hu9, hc9⟩ := (HRP.out.below hb6).at_ (k := J) hjl
                obtain ⟨y, hy, rfl⟩ := u8s_get _ _ _ hu9
                have hy2 : R[j]? = some y := by rw [HR.out, List.getElem?_drop, ← hJ]; exact hy
                have hdj : decide ((J : Int) < ((48 * i : Nat) : Int)) = true := by simp; omega
                have hji : (J : Int) ≤ 1000000 := by omega
                have HJJ := Lib.hid hJ
                have HU := Lib.hid hu9
                subst hA9
                clear hu9 hy hJ
                by_cases hy0 : y = 0
                · subst hy0
                  have qy : (((0 : UInt8).toNat : Int) != 0) = false := rfl
                  have hnz1 : hasNZ (R.take (j + 1)) = false := by
                    obtain ⟨hjR, e⟩ := List.getElem?_eq_some_iff.1 hy2
                    rw [List.take_succ_eq_append_getElem hjR, e]
                    unfold hasNZ
                    rw [List.any_append]
                    have := hnz.out
                    unfold hasNZ at this
                    rw [this]
                    rfl
                  have HN1 := Lib.hid hnz1
                  clear hy2 hnz1
                  go_wp2
                  go_roundw
                  case rel => exact ⟨j + 1, by have := HJJ.out; omega, by have := HJJ.out; go_num, HN1, trivial⟩
                  case measure => simp [intOf]; omega
                · have qy : ((y.toNat : Int) != 0) = true := by
                    simp only [bne_iff_ne, ne_eq]
                    intro e
                    exact hy0 (UInt8.toNat_inj.1 (by simpa using (by exact_mod_cast e : y.toNat = 0)))
                  have hr : Hid (readOf l = (0, [], 10)) := Lib.hid (by
                    have : hasNZ R = true := by
                      unfold hasNZ
                      rw [List.any_eq_true]
                      exact ⟨y, List.mem_of_getElem? hy2, by simpa using hy0⟩
                    rw [HJ2.out, this]
                    rfl)
                  clear hy2 hy0
                  go_wp2
                  refine bodyPost_ret (results_tmp3 rfl _ _ _) rfl ?_
                  exact tellsF_early hr HB06.out
              · have hdj : decide ((J : Int) < ((48 * i : Nat) : Int)) = false := by simp; omega
                have hji : (J : Int) ≤ 1000000 := by omega
                have hr : Hid (readOf l = (M, t.drop 4, 0)) := Lib.hid (by
                  have : hasNZ R = false := by
                    have := hnz.out
                    rwa [List.take_of_length_le (by rw [HRL.out]; omega)] at this
                  rw [HJ2.out, this]
                  rfl)
                have hfl : (t.drop 4).length = x := by rw [List.length_drop, HTL.out]; omega
                have HFL := Lib.hid hfl
                clear hJ hj hfl
                go_wp2
                go_quiet (fail)
                all_goals go_wp2
                all_goals refine bodyPost_ret (results_tmp3 rfl _ _ _) rfl ?_
                all_goals rw [hr.out]
                all_goals first
                  | exact ⟨_, _, _, rfl, HFL.out.symm, HR7.out.drewN _, below_drewN HB06.out _, fun b o e => by cases e; exact HF6.out⟩
                  | exact ⟨_, _, _, rfl, HFL.out.symm, (HR8.out (by omega)).drewN _, below_drewN HB06.out _, fun b o e => by cases e; exact HF6.out⟩
          · have hr : Hid (readOf l = (0, [], 12)) := Lib.hid (by
              have e := h12 hE0
              simp only [Prod.mk.injEq] at e
              rw [hjg, if_pos hE0]
              simp only
              rw [if_pos hE0, e.2])
            obtain ⟨rfl, rfl⟩ : t = [] ∧ E = 12 := by have e := h12 hE0; simpa using e
            clear hjg hO hlen h12 hop hpl hoo hP hown hr1 hrP herr hE0
            go_wp2_with (first
              | (go_at_call 55; refine HO.out.mono ?_; rintro e w5 ⟨A6, n6, c6, rfl, hn6, hr6, hb6, hf6⟩)
              | fail)
            refine bodyPost_ret (results_tmp3 rfl _ _ _) rfl ?_
            exact tellsF_early hr (hb0.trans (hb6.mono hzw))


theorem rreadF_any (A : Option Addr) (n c : Nat) (l : List UInt8) (w : World) (h : Rd w w.heap.size 1 A n c (u8s l)) (hn : n ≤ 1000000) : Calls Try.prog 30 #[.slice A n c] w (Tells3F w (readOf l)) := by
  have hln : l.length = n := by have := h.len; rwa [u8s_len] at this
  by_cases hs : n < 64
  · exact rreadF_short A n c l w hln hs
  · by_cases hw : headsOf l ≠ tailsOf l ∨ headsOf l = 0
    · exact rreadF_ends A n c l w h hn (by omega) hw
    · refine rreadF_late A n c l w h hn (by omega) ?_ ?_ <;> omega
end Go.Proofs.Ytddnjlnhnnpgiaa

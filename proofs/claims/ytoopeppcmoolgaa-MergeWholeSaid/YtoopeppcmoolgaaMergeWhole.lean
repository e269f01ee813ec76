/- What a new leader goes on with stands in order, without holes, of its term, each entry telling of those ahead of it; the last one is somebody's: for all inputs. -/
import Derived.Test.YtoopeppcmoolgaaMlives
import Derived.Test.YtoopeppcmoolgaaMalike
namespace Go.Proofs.Ytoopeppcmoolgaa
open Go.RowKit
set_option maxRecDepth 20000

theorem hadN_last (f : Nat → Bool) : ∀ k m, hadN f k = m + 1 → f m = true := by
  intro k
  induction k with
  | zero => intro m h; cases h
  | succ k ih =>
    intro m h
    unfold hadN at h
    split at h
    · next hf => obtain rfl : k = m := by omega
                 exact hf
    · exact ih m h
/-- The entries that Merge tells. -/
structure Told (w : World) (A : Option Addr) (c : Nat) (es : List En) (base term : Nat) (m : Int) (Ls : List Li) (H : Nat) : Prop where
  ents : Ents w A H c es
  at_ : ∀ j, j < H → ∃ A' c', es[j]? = some ((goes base term m Ls H j).put A' c')
theorem Told.below {w w' : World} {A : Option Addr} {c : Nat} {es : List En} {base term : Nat} {m : Int} {Ls : List Li} {H : Nat} (h : Told w A c es base term m Ls H) (hb : Below w.heap.size w w') : Told w' A c es base term m Ls H := ⟨h.ents.below hb, h.at_⟩
theorem Told.core {w : World} {A : Option Addr} {c : Nat} {es : List En} {base term : Nat} {m : Int} {Ls : List Li} {H : Nat} (h : Told w A c es base term m Ls H) (j : Nat) (e : En) (he : es[j]? = some e) : Core (srcE Ls base j) e := by
  obtain ⟨A', c', h2⟩ := h.at_ j (by have := (List.getElem?_eq_some_iff.1 he).1; have := h.ents.len; omega)
  rw [he] at h2
  cases h2
  exact ⟨(srcE_ix Ls base j).symm, rfl, rfl, rfl, rfl, rfl, rfl⟩
/-- An entry that is told tells of each one that it looks behind at. -/
theorem Told.tells {w : World} {A : Option Addr} {c : Nat} {es : List En} {base term : Nat} {m : Int} {Ls : List Li} {H : Nat} (h : Told w A c es base term m Ls H) {i k : Nat} {e x : En} (he : es[i]? = some e) (hk : k < Go.Proofs.Ytoopeppcmoolgaa.mk m i) (hx : es[i - 1 - k]? = some x) : e.tells x = true := by
  have hi : i < H := by have := (List.getElem?_eq_some_iff.1 he).1; have := h.ents.len; omega
  have hm : Go.Proofs.Ytoopeppcmoolgaa.mk m i ≤ i := by unfold Go.Proofs.Ytoopeppcmoolgaa.mk; omega
  obtain ⟨A', c', h2⟩ := h.at_ i hi
  rw [he] at h2
  have he2 := Option.some.inj h2
  have hcx := h.core _ x hx
  have hxi : x.ix = base + 1 + (i - 1 - k) := by rw [hcx.ix, srcE_ix]
  unfold En.tells En.at
  rw [he2, hxi]
  show decide ((if base + 1 + (i - 1 - k) < base + 1 + i then (mades ((List.range i).map (srcE Ls base)) (Go.Proofs.Ytoopeppcmoolgaa.mk m i))[base + 1 + i - 1 - (base + 1 + (i - 1 - k))]? else none) = some x.look) = true
  rw [if_pos (by omega), decide_eq_true_eq, show base + 1 + i - 1 - (base + 1 + (i - 1 - k)) = k by omega]
  rw [hcx.look]
  exact mades_get _ _ k _ (by simp; omega) hk (by simp only [List.length_map, List.length_range, List.getElem?_map]; rw [List.getElem?_range (by omega)]; rfl)
/-- The last one is somebody's. -/
theorem Told.last {w : World} {A : Option Addr} {c : Nat} {es : List En} {base term : Nat} {m : Int} {Ls : List Li} {H : Nat} (h : Told w A c es base term m Ls H) (hH : hadN (hasE Ls base) 192 = H) {e : En} (h0 : 0 < H) (he : es[H - 1]? = some e) : ∃ x ∈ flat Ls, x.ix = e.ix ∧ x.alike e = true := by
  have hf := hadN_last (hasE Ls base) 192 (H - 1) (by omega)
  have hc := h.core _ e he
  unfold hasE at hf
  obtain ⟨x, hx⟩ := Option.isSome_iff_exists.1 hf
  have hs : srcE Ls base (H - 1) = x := by unfold srcE; rw [hx]; rfl
  rw [hs] at hc
  refine ⟨x, bestOf_mem hx, hc.ix.symm, ?_⟩
  unfold En.alike
  rw [hc.kd, hc.look, hc.da]
  simp
set_option maxHeartbeats 8000000 in
theorem mergeWhole_walk {w : World} (base0 : Int) (hb0 : (Lit.int .u64 base0).wf = true) (term0 : Int) (ht0 : (Lit.int .u64 term0).wf = true) (m : Int) (_ : (Lit.int .i64 m).wf = true) {A : Option Addr} {n c : Nat} {Ls : List Li} (h : Slc Li.lay w A n c Ls) :
    Calls Try.prog 4 #[.int .u64 base0, .int .u64 term0, .int .i64 m, .slice A n c] w fun r w' => r = .returned (.bool true) ∧ Below w.heap.size w w' := by
  obtain ⟨base, rfl, hb⟩ := wf_u64 hb0
  obtain ⟨term, rfl, ht⟩ := wf_u64 ht0
  clear hb0 ht0
  have HL := Lib.hid (light23 h base hb)
  have HM := Lib.hid (fun W (hb' : Below w.heap.size w W) (hf : Fit base Ls) => merge_any (h.below hb') hf.bn base term hf.base ht m)
  have HH := Lib.hid h
  have HT := Lib.hid ht
  clear h hb ht
  go_enter Try.func4, Try.ntmps4
  go_wp2_with (first
    | (go_at_call 7; refine HL.out.mono ?_; rintro e w1 ⟨bb, rfl, hf1, hb1⟩
       have HB1 := Lib.hid hb1
       have HF1 := Lib.hid hf1
       clear hf1 hb1
       cases bb)
    | (go_at_call 9; refine (lives23 _).mono ?_; rintro e w2 ⟨rfl, hb2⟩)
    | (go_at_call 16; refine (HM.out _ HB1.out (HF1.out trivial)).mono ?_; rintro e w2 ⟨A2, c2, es, rfl, hE, hG, hb2⟩
       have HB2 := Lib.hid (HB1.out.trans (hb2.mono HB1.out.size))
       clear hb2)
    | fail)
  · go_ret
    exact ⟨rfl, HB1.out.trans (hb2.mono HB1.out.size)⟩
  · have hfit := HF1.out trivial
    have hbi : (base : Int) ≤ 4611686018427387904 := by have := hfit.base; omega
    have hbi0 : (0 : Int) ≤ (base : Int) := by omega
    obtain ⟨H, hH⟩ : ∃ H, hadN (hasE Ls base) 192 = H := ⟨_, rfl⟩
    rw [hH] at hE hG ⊢
    have hH192 : H ≤ 192 := by rw [← hH]; exact hadN_le _ _
    have HTD := Lib.hid (show Told w2 A2 c2 es base term m Ls H from ⟨hE, hG⟩)
    have HHH := Lib.hid hH
    have hHi : (H : Int) ≤ 192 := by omega
    clear hH hE hG HM HL hfit
    go_loopw [10, 12, 30, 73] (fun _ _ ir _ wr => ∃ (i : Nat), i ≤ H ∧ ir = .int .i64 (i : Int) ∧ Hid (Below w2.heap.size w2 wr)) (fun _ _ ir _ _ => H - (intOf ir).toNat)
    case atStart => exact ⟨0, Nat.zero_le _, rfl, Lib.hid (Below.refl _ _)⟩
    case round =>
      obtain ⟨i, hi, rfl, HBW⟩ := hrel
      by_cases hlt : i < H
      · obtain ⟨e0, he⟩ : ∃ e0, es[i]? = some e0 := ⟨_, List.getElem?_eq_getElem (by have := HTD.out.ents.len; omega)⟩
        obtain ⟨A', c', hg⟩ := HTD.out.at_ i hlt
        rw [he] at hg
        have hE := Option.some.inj hg
        have hix : e0.ix = base + 1 + i := by rw [hE]; rfl
        have htm : e0.tm = term := by rw [hE]; rfl
        have hst : e0.st = base + 1 + H := by rw [hE]; rfl
        have hbn : e0.bn = mk m i := by rw [hE]; rfl
        obtain ⟨b, o, hA, hbl, hcc⟩ := HTD.out.ents.rd.2.2.2 (by omega)
        subst hA
        have hce := fun j u (hu : e0.cells[j]? = some u) => (HBW.out.cell (p := ⟨b, o + (i * 10 + j), none⟩) hbl).trans (hcc _ _ (ens_get es i _ he j u hu))
        have HTI := Lib.hid (fun k x (hk : k < mk m i) (hx : es[i - 1 - k]? = some x) => HTD.out.tells he hk hx)
        have HRI := Lib.hid (HTD.out.ents.reads e0 (List.mem_of_getElem? he))
        have hki : (i : Int) < (H : Int) := by omega
        have v1 : IntKind.u64.wrap ((base : Int) + 1) = (base : Int) + 1 := u64w _ (by omega) (by omega)
        have v2 : IntKind.u64.wrap (i : Int) = (i : Int) := u64w _ (by omega) (by omega)
        have v3 : IntKind.u64.wrap (H : Int) = (H : Int) := u64w _ (by omega) (by omega)
        have v4 : IntKind.u64.wrap ((base : Int) + 1 + (i : Int)) = (base : Int) + 1 + (i : Int) := u64w _ (by omega) (by omega)
        have v5 : IntKind.u64.wrap ((base : Int) + 1 + (H : Int)) = (base : Int) + 1 + (H : Int) := u64w _ (by omega) (by omega)
        have HMK := Lib.hid (show mk m i ≤ i by unfold mk; omega)
        obtain ⟨B, hB⟩ : ∃ B, mk m i = B := ⟨_, rfl⟩
        rw [hB] at hbn HTI HMK
        have m1 : max (min m (i : Int)) 0 = (B : Int) := by rw [← hB]; unfold mk; omega
        have m2 : (if (i : Int) < m then (i : Int) else m) = min m (i : Int) := by split <;> omega
        clear hcc he hE hg hB
        obtain ⟨ix, tm, st, kd, cl, rq, fr, ct, da, A1, bn, bc, ls⟩ := e0
        dsimp only at hix htm hst hbn
        subst hix htm hst hbn
        unfold En.cells at hce
        dsimp only at *
        have k0 := hce 0 _ rfl
        have k1 := hce 1 _ rfl
        have k2 := hce 2 _ rfl
        have k3 := hce 3 _ rfl
        have k4 := hce 4 _ rfl
        have k5 := hce 5 _ rfl
        have k6 := hce 6 _ rfl
        have k7 := hce 7 _ rfl
        have k8 := hce 8 _ rfl
        have k9 := hce 9 _ rfl
        try dsimp only at k0 k1 k2 k3 k4 k5 k6 k7 k8 k9
        simp only [← Nat.add_assoc, Nat.add_zero] at k0 k1 k2 k3 k4 k5 k6 k7 k8 k9
        clear hce
        rw [show ((base + 1 + i : Nat) : Int) = (base : Int) + 1 + (i : Int) by omega] at k0
        rw [show ((base + 1 + H : Nat) : Int) = (base : Int) + 1 + (H : Int) by omega] at k2
        obtain ⟨wo, rfl⟩ : ∃ wo : World, wo = wr := ⟨_, rfl⟩
        obtain ⟨W1, hW1, hz1, r11, hb11⟩ := row1 wo #[.int .u64 ((base : Int) + 1 + (i : Int)), .int .u64 (tm : Int), .int .u64 ((base : Int) + 1 + (H : Int)), .int .i64 kd, .int .u64 (cl : Int), .int .u64 (rq : Int), .int .u32 (fr : Int), .int .u32 (ct : Int), .string (str da), .slice A1 bn bc] 29
        have HR11 := Lib.hid (show ERow W1 wo.heap.size ⟨base + 1 + i, tm, base + 1 + H, kd, cl, rq, fr, ct, da, A1, bn, bc, ls⟩ from by
          have e1 : (base : Int) + 1 + (i : Int) = ((base + 1 + i : Nat) : Int) := by omega
          have e2 : (base : Int) + 1 + (H : Int) = ((base + 1 + H : Nat) : Int) := by omega
          rw [e1, e2] at r11
          exact r11)
        have HB11 := Lib.hid hb11
        go_wp2_with (fail)
        rw [← hW1]
        clear hW1 hz1 r11 hb11 m1 m2 v1 v2 v3 v4 v5 k0 k1 k2 k3 k4 k5 k6 k7 k8 k9
        obtain ⟨p11, hp11⟩ : ∃ p11, wo.heap.size = p11 := ⟨_, rfl⟩
        rw [hp11] at HR11 ⊢
        clear hp11
        have hBi : (bn : Int) ≤ 192 := by have := HMK.out; omega
        go_loopw [12, 73] (fun _ kr wr => ∃ (k : Nat), k ≤ bn ∧ kr = .int .i64 (k : Int) ∧ Hid (Below W1.heap.size W1 wr)) (fun _ kr _ => bn - (intOf kr).toNat)
        case atStart => exact ⟨0, Nat.zero_le _, rfl, Lib.hid (Below.refl _ _)⟩
        case round =>
          obtain ⟨k, hk, rfl, HBI⟩ := hrel
          by_cases hkb : k < bn
          · have hki2 : (k : Int) < (bn : Int) := by omega
            obtain ⟨q, hq⟩ : ∃ q : Nat, (i : Int) - 1 - (k : Int) = (q : Int) := ⟨i - 1 - k, by have := HMK.out; omega⟩
            have hqn : q = i - 1 - k := by omega
            have hqH : (q : Int) < (H : Int) := by omega
            obtain ⟨x, hx⟩ : ∃ x, es[q]? = some x := ⟨_, List.getElem?_eq_getElem (by have := HTD.out.ents.len; omega)⟩
            have hbw : Below w2.heap.size w2 wr := HBW.out.trans ((HB11.out.trans (HBI.out.mono HB11.out.size)).mono HBW.out.size)
            have HL1 := Lib.hid (fun W' (hb' : Below wr.heap.size wr W') => e_loads (row_below (row_below HR11.out HBI.out) hb'))
            have HL2 := Lib.hid (fun W' (hb' : Below wr.heap.size wr W') => ents_loads (HTD.out.ents.below (hbw.trans (hb'.mono hbw.size))) hx)
            have htt := HTI.out k x hkb (by rw [← hqn]; exact hx)
            have HTL := Lib.hid (fun W' (hb' : Below wr.heap.size wr W') => tells_any ⟨base + 1 + i, tm, base + 1 + H, kd, cl, rq, fr, ct, da, A1, bn, bc, ls⟩ x W' (HRI.out.below (hbw.trans (hb'.mono hbw.size))) ((HTD.out.ents.reads x (List.mem_of_getElem? hx)).below (hbw.trans (hb'.mono hbw.size))))
            rw [htt] at HTL
            have HLT := Lib.hid hkb
            have hii : (i : Int) ≤ 192 := by omega
            have hi1 : 1 ≤ (i : Int) := by have := HMK.out; omega
            clear hbw hx htt hqn hkb
            generalize ((⟨base + 1 + i, tm, base + 1 + H, kd, cl, rq, fr, ct, da, A1, bn, bc, ls⟩ : En)).cells = E0 at *
            go_wp2_with (fail)
            refine wp_low wr.heap.size [([0, 1, 2, 3, 4, 5, 6, 7], 8)] [9] (by kernel_rfl) (by kernel_rfl) (fun d _ _ _ _ h => by cases d <;> exact h) (Nat.le_refl _) fun wd hbd => ?_
            intro q hq
            simp only [pickI, Option.toList_some, List.cons_append, List.nil_append, List.getElem?_toArray, List.getElem?_cons_succ, List.getElem?_cons_zero]
            try go_frame
            refine wpQ_load rfl _ (.tmp 11) rfl rfl (fun w hw => by obtain ⟨z, rfl⟩ := hw; exact HL1.out _ (hq z)) ?_
            try go_frame
            go_big_quiet_step (fail)
            go_big_quiet_step (fail)
            go_big_quiet_step (fail)
            go_big_quiet_step (fail)
            go_big_quiet_step (fail)
            go_big_quiet_step (fail)
            refine wpQ_load rfl _ (.tmp 82) rfl rfl (fun w hw => by obtain ⟨z, rfl⟩ := hw; exact HL2.out _ (hq z)) ?_
            try go_frame
            refine wpQuiet_nil ?_
            clear hq q
            refine seg_op (by simp only [List.getElem?_toArray, List.getElem?_cons_succ, List.getElem?_cons_zero]; rfl) fun K hK => ?_
            go_simp
            refine (HTL.out _ hbd).mono ?_
            rintro e v0 ⟨rfl, bv0⟩
            have zv0 := hbd.trans (bv0.mono hbd.size)
            refine hK.out _ _ (seg_keep zv0 ?_)
            clear hK K
            intro q hq
            simp only [pickI, Option.toList_some, List.cons_append, List.nil_append, List.getElem?_toArray, List.getElem?_cons_succ, List.getElem?_cons_zero]
            try go_frame
            go_big_quiet_step (fail)
            refine wpQuiet_nil ?_
            clear hq q
            go_wp2
            go_roundw
            case rel => exact ⟨k + 1, HLT.out, by go_num, Lib.hid (HBI.out.trans (zv0.mono HBI.out.size))⟩
            case measure => have := HLT.out; simp [intOf]; omega
          · obtain rfl : k = bn := by omega
            go_wp2
            go_roundw
            case rel => exact ⟨i + 1, by omega, by go_num, Lib.hid (HBW.out.trans ((HB11.out.trans (HBI.out.mono HB11.out.size)).mono HBW.out.size))⟩
            case measure => simp [intOf]; omega
      · obtain rfl : i = H := by omega
        by_cases h0 : i = 0
        · subst h0
          go_wp2_with (first
            | (go_at_call 9; refine (lives23 _).mono ?_; rintro e w9 ⟨rfl, hb9⟩)
            | fail)
          go_ret
          exact ⟨rfl, HB2.out.trans ((HBW.out.trans (hb9.mono HBW.out.size)).mono HB2.out.size)⟩
        · have hi1 : 1 ≤ (i : Int) := by omega
          have q0 : ((i : Int) == 0) = false := by simp; omega
          obtain ⟨q, hq⟩ : ∃ q : Nat, (i : Int) - 1 = (q : Int) := ⟨i - 1, by omega⟩
          have hqn : q = i - 1 := by omega
          have hqH : (q : Int) < (i : Int) := by omega
          obtain ⟨e9, he⟩ : ∃ e9, es[q]? = some e9 := ⟨_, List.getElem?_eq_getElem (by have := HTD.out.ents.len; omega)⟩
          obtain ⟨b, o, hA, hbl, hcc⟩ := HTD.out.ents.rd.2.2.2 (by omega)
          subst hA
          have hce := fun j u (hu : e9.cells[j]? = some u) => (HBW.out.cell (p := ⟨b, o + (q * 10 + j), none⟩) hbl).trans (hcc _ _ (ens_get es q _ he j u hu))
          have HLA := Lib.hid (HTD.out.last HHH.out (by omega) (by rw [← hqn]; exact he))
          clear hcc he hqn
          obtain ⟨ix, tm, st, kd, cl, rq, fr, ct, da, A1, bn, bc, ls⟩ := e9
          unfold En.cells at hce
          dsimp only at *
          have k0 := hce 0 _ rfl
          have k1 := hce 1 _ rfl
          have k2 := hce 2 _ rfl
          have k3 := hce 3 _ rfl
          have k4 := hce 4 _ rfl
          have k5 := hce 5 _ rfl
          have k6 := hce 6 _ rfl
          have k7 := hce 7 _ rfl
          have k8 := hce 8 _ rfl
          have k9 := hce 9 _ rfl
          try dsimp only at k0 k1 k2 k3 k4 k5 k6 k7 k8 k9
          simp only [← Nat.add_assoc, Nat.add_zero] at k0 k1 k2 k3 k4 k5 k6 k7 k8 k9
          clear hce
          obtain ⟨W3, hW3, hz3, r13, hb13⟩ := row1 wr #[.int .u64 (ix : Int), .int .u64 (tm : Int), .int .u64 (st : Int), .int .i64 kd, .int .u64 (cl : Int), .int .u64 (rq : Int), .int .u32 (fr : Int), .int .u32 (ct : Int), .string (str da), .slice A1 bn bc] 29
          have HR13 := Lib.hid (show ERow W3 wr.heap.size ⟨ix, tm, st, kd, cl, rq, fr, ct, da, A1, bn, bc, ls⟩ from r13)
          have HB13 := Lib.hid (HB2.out.trans ((HBW.out.trans (hb13.mono HBW.out.size)).mono HB2.out.size))
          go_wp2_with (fail)
          rw [← hW3]
          obtain ⟨p13, hp13⟩ : ∃ p13, wr.heap.size = p13 := ⟨_, rfl⟩
          rw [hp13] at HR13 ⊢
          clear hp13 hW3 hz3 r13 hb13 k0 k1 k2 k3 k4 k5 k6 k7 k8 k9 hi1 hq hqH hlt
          have hcap := HH.out.rd.2.1
          have hnc := HH.out.rd.1
          have hnm : (n : Int) ≤ 9223372036854775807 := by unfold maxLen at hcap; omega
          clear hcap hnc
          go_loopw [15, 100, 106] (fun _ ir _ wr => ∃ (j : Nat), j ≤ n ∧ ir = .int .i64 (j : Int) ∧ Hid (∀ a l, a < j → Ls[a]? = some l → ∀ x ∈ l.es, ¬ (x.ix = ix ∧ x.alike ⟨ix, tm, st, kd, cl, rq, fr, ct, da, A1, bn, bc, ls⟩ = true)) ∧ Hid (Below W3.heap.size W3 wr)) (fun _ ir _ _ => n - (intOf ir).toNat)
          case atStart => exact ⟨0, Nat.zero_le _, rfl, Lib.hid (fun a l h => absurd h (Nat.not_lt_zero _)), Lib.hid (Below.refl _ _)⟩
          case round =>
            obtain ⟨j, hj, rfl, HN, HBI⟩ := hrel
            by_cases hlt : j < n
            · obtain ⟨l0, hl⟩ : ∃ l0, Ls[j]? = some l0 := ⟨_, List.getElem?_eq_getElem (by have := HH.out.len; omega)⟩
              obtain ⟨bl, ol, hAl, hblb, hcl⟩ := HH.out.at_ (by omega)
              subst hAl
              have hrd : Ents w l0.A l0.n l0.c l0.es := HH.out.reads l0 (List.mem_of_getElem? hl)
              have HBX := Lib.hid (fun W' (hb' : Below W3.heap.size W3 W') => HB13.out.trans (hb'.mono HB13.out.size))
              have kl : wr.cell? ⟨bl, ol + j, none⟩ = some (.slice l0.A l0.n l0.c) := ((HBX.out wr HBI.out).cell (p := ⟨bl, ol + j, none⟩) hblb).trans (by have := hcl j l0 hl 0 (.slice l0.A l0.n l0.c) rfl; rwa [Nat.mul_one, Nat.add_zero] at this)
              have HE := Lib.hid hrd
              have HL := Lib.hid hl
              have hcl2 := hrd.rd.2.1
              have hncl := hrd.rd.1
              have hnl : (l0.n : Int) ≤ 9223372036854775807 := by unfold maxLen at hcl2; omega
              have hltj : (j : Int) < (n : Int) := by omega
              have hinj : (j : Int) ≤ 9223372036854775806 := by omega
              clear hcl hl hrd hcl2 hncl
              obtain ⟨wo, rfl⟩ : ∃ wo : World, wo = wr := ⟨_, rfl⟩
              go_wp2_with (fail)
              go_loopw [106] (fun jr wr => ∃ (k : Nat), k ≤ l0.n ∧ jr = .int .i64 (k : Int) ∧ Hid (∀ b x, b < k → l0.es[b]? = some x → ¬ (x.ix = ix ∧ x.alike ⟨ix, tm, st, kd, cl, rq, fr, ct, da, A1, bn, bc, ls⟩ = true)) ∧ Hid (Below W3.heap.size W3 wr)) (fun jr _ => l0.n - (intOf jr).toNat)
              case atStart => exact ⟨0, Nat.zero_le _, rfl, Lib.hid (fun a l h => absurd h (Nat.not_lt_zero _)), HBI⟩
              case round =>
                clear HBI kl
                obtain ⟨k, hk, rfl, HNI, HBI⟩ := hrel
                by_cases hkl : k < l0.n
                · obtain ⟨x0, hx⟩ : ∃ x0, l0.es[k]? = some x0 := ⟨_, List.getElem?_eq_getElem (by have := HE.out.len; omega)⟩
                  obtain ⟨b1, o1, hA1, hb1b, hc1⟩ := HE.out.rd.2.2.2 (by omega)
                  have hce := fun c u (hu : x0.cells[c]? = some u) => ((HBX.out wr HBI.out).cell (p := ⟨b1, o1 + (k * 10 + c), none⟩) hb1b).trans (hc1 _ _ (ens_get l0.es k _ hx c u hu))
                  have HX := Lib.hid hx
                  have HAK := Lib.hid (fun W' => alike_any x0 ⟨ix, tm, st, kd, cl, rq, fr, ct, da, A1, bn, bc, ls⟩ W')
                  have hkk : (k : Int) < (l0.n : Int) := by omega
                  have hkj : (k : Int) ≤ 9223372036854775806 := by omega
                  have HLK := Lib.hid hkl
                  have hak : ∃ T, x0.alike ⟨ix, tm, st, kd, cl, rq, fr, ct, da, A1, bn, bc, ls⟩ = T := ⟨_, rfl⟩
                  obtain ⟨T, hT⟩ := hak
                  rw [hT] at HAK
                  have HT := Lib.hid hT
                  clear hc1 hx hT hkl
                  have c0 : ∀ o : Obj, (wr.alloc o).cell? ⟨p13, 0, none⟩ = some (.int .u64 (ix : Int)) := fun o => cell_old o ((cell_of_row wr p13 0 _ _ _ (row_below HR13.out HBI.out)).trans rfl)
                  have c1 : ∀ o : Obj, (wr.alloc o).cell? ⟨p13, 1, none⟩ = some (.int .u64 (tm : Int)) := fun o => cell_old o ((cell_of_row wr p13 1 _ _ _ (row_below HR13.out HBI.out)).trans rfl)
                  have c2 : ∀ o : Obj, (wr.alloc o).cell? ⟨p13, 2, none⟩ = some (.int .u64 (st : Int)) := fun o => cell_old o ((cell_of_row wr p13 2 _ _ _ (row_below HR13.out HBI.out)).trans rfl)
                  have c3 : ∀ o : Obj, (wr.alloc o).cell? ⟨p13, 3, none⟩ = some (.int .i64 kd) := fun o => cell_old o ((cell_of_row wr p13 3 _ _ _ (row_below HR13.out HBI.out)).trans rfl)
                  have c4 : ∀ o : Obj, (wr.alloc o).cell? ⟨p13, 4, none⟩ = some (.int .u64 (cl : Int)) := fun o => cell_old o ((cell_of_row wr p13 4 _ _ _ (row_below HR13.out HBI.out)).trans rfl)
                  have c5 : ∀ o : Obj, (wr.alloc o).cell? ⟨p13, 5, none⟩ = some (.int .u64 (rq : Int)) := fun o => cell_old o ((cell_of_row wr p13 5 _ _ _ (row_below HR13.out HBI.out)).trans rfl)
                  have c6 : ∀ o : Obj, (wr.alloc o).cell? ⟨p13, 6, none⟩ = some (.int .u32 (fr : Int)) := fun o => cell_old o ((cell_of_row wr p13 6 _ _ _ (row_below HR13.out HBI.out)).trans rfl)
                  have c7 : ∀ o : Obj, (wr.alloc o).cell? ⟨p13, 7, none⟩ = some (.int .u32 (ct : Int)) := fun o => cell_old o ((cell_of_row wr p13 7 _ _ _ (row_below HR13.out HBI.out)).trans rfl)
                  have c8 : ∀ o : Obj, (wr.alloc o).cell? ⟨p13, 8, none⟩ = some (.string (str da)) := fun o => cell_old o ((cell_of_row wr p13 8 _ _ _ (row_below HR13.out HBI.out)).trans rfl)
                  have c9 : ∀ o : Obj, (wr.alloc o).cell? ⟨p13, 9, none⟩ = some (.slice A1 bn bc) := fun o => cell_old o ((cell_of_row wr p13 9 _ _ _ (row_below HR13.out HBI.out)).trans rfl)
                  obtain ⟨ix2, tm2, st2, kd2, cl2, rq2, fr2, ct2, da2, A3, bn2, bc2, ls2⟩ := x0
                  obtain ⟨A0, n0, c0, es0⟩ := l0
                  dsimp only at hA1
                  subst hA1
                  unfold En.cells at hce HAK
                  dsimp only at *
                  have k0 := hce 0 _ rfl
                  have k1 := hce 1 _ rfl
                  have k2 := hce 2 _ rfl
                  have k3 := hce 3 _ rfl
                  have k4 := hce 4 _ rfl
                  have k5 := hce 5 _ rfl
                  have k6 := hce 6 _ rfl
                  have k7 := hce 7 _ rfl
                  have k8 := hce 8 _ rfl
                  have k9 := hce 9 _ rfl
                  try dsimp only at k0 k1 k2 k3 k4 k5 k6 k7 k8 k9
                  simp only [← Nat.add_assoc, Nat.add_zero] at k0 k1 k2 k3 k4 k5 k6 k7 k8 k9
                  clear hce
                  by_cases hix : ix2 = ix
                  · subst hix
                    cases T
                    · go_wp2_with (first
                        | (go_at_call 19; refine (HAK.out _).mono ?_; rintro e w8 ⟨rfl, hb8⟩)
                        | fail)
                      go_roundw
                      case rel => exact ⟨k + 1, HLK.out, by go_num, Lib.hid (fun a x ha hx => by
                        rcases Nat.lt_or_ge a k with h1 | h1
                        · exact HNI.out a x h1 hx
                        · obtain rfl : a = k := by omega
                          rw [HX.out] at hx
                          cases hx
                          rw [HT.out]
                          simp), Lib.hid (HBI.out.trans (((((Below.refl _ _).alloc (Nat.le_refl _) _).trans (hb8.mono (by simp)))).mono HBI.out.size))⟩
                      case measure => have := HLK.out; simp [intOf]; omega
                    · go_wp2_with (first
                        | (go_at_call 19; refine (HAK.out _).mono ?_; rintro e w8 ⟨rfl, hb8⟩)
                        | (go_at_call 9; refine (lives23 _).mono ?_; rintro e w9 ⟨rfl, hb9⟩)
                        | fail)
                      go_ret
                      have hbx := HBX.out wr HBI.out
                      have hb89 := (((Below.refl wr.heap.size wr).alloc (Nat.le_refl _) _).trans (hb8.mono (by simp))).trans (hb9.mono (Nat.le_trans (by simp) hb8.size))
                      exact ⟨rfl, hbx.trans (hb89.mono hbx.size)⟩
                  · have q1 : ((ix2 : Int) == (ix : Int)) = false := by simp; omega
                    go_wp2_with (fail)
                    go_roundw
                    case rel => exact ⟨k + 1, HLK.out, by go_num, Lib.hid (fun a x ha hx => by
                      rcases Nat.lt_or_ge a k with h1 | h1
                      · exact HNI.out a x h1 hx
                      · obtain rfl : a = k := by omega
                        rw [HX.out] at hx
                        cases hx
                        exact fun h => hix h.1), Lib.hid (HBI.out.alloc HBI.out.size _)⟩
                    case measure => have := HLK.out; simp [intOf]; omega
                · obtain rfl : k = l0.n := by omega
                  go_wp2
                  go_roundw
                  case rel => exact ⟨j + 1, by omega, by go_num, Lib.hid (fun a l ha hl x hx => by
                    rcases Nat.lt_or_ge a j with h1 | h1
                    · exact HN.out a l h1 hl x hx
                    · obtain rfl : a = j := by omega
                      rw [HL.out] at hl
                      cases hl
                      obtain ⟨b, hb⟩ := List.getElem?_of_mem hx
                      exact HNI.out b x (by have h1 := (List.getElem?_eq_some_iff.1 hb).1; have := HE.out.len; omega) hb), HBI⟩
                  case measure => simp [intOf]; omega
            · exfalso
              obtain ⟨x, hx, h1, h2⟩ := HLA.out
              unfold flat at hx
              obtain ⟨l, hl, hx⟩ := List.mem_flatMap.1 hx
              obtain ⟨a, ha⟩ := List.getElem?_of_mem hl
              exact HN.out a l (by have h1 := (List.getElem?_eq_some_iff.1 ha).1; have := HH.out.len; omega) ha x hx ⟨h1, h2⟩
namespace mergeWhole
open Go.ChangeShapes Go.WideShapes Go.ChangeAt
set_option maxRecDepth 100000 in
theorem lifted (os : Os) (started : os.Started) (H : Type) (enc : TypeId × Value → H) :
    ReturnsInHanded {} Try.checked os 4 .any (Rows.mergeWholeSpec.pre6 enc Try.prog Try.f4 Rows.mergeWholeRow.domain false) (Rows.mergeWholeSpec.post enc Try.prog Try.f4 false true false false) := by
  refine returnsInHanded_of_change (C := Try.checked) own started (by kernel_rfl) Try.func4
    (ChangeSpec.witness6 (enc := enc) (C := Try.checked) false ⟨#[], #[.int .u64 0, .int .u64 0, .int .i64 0, .slice none 0 0], []⟩ 8 (by kernel_rfl) (by kernel_rfl) (by kernel_rfl) (by kernel_rfl)) ?_
  intro W base args ds gs before hval0 hW _ _
  have hval : ∀ (j : Nat) t v, Try.f4.params[j]? = some t → args[j]? = some v → Value.okWide Try.prog W .any base t v := hval0
  have hW' := hW
  obtain ⟨p, q, hA0, hV, rfl, hfz, hnd⟩ := hW
  have hA : DataW.TrodAll enc Try.prog W 0 (fun _ => true) true Try.f4.params.toList args.toList ds p := hA0
  rw [Try.params4] at hA hval
  obtain ⟨v0, vs0, d0, ds0, p0, q0, hargs, rfl, rfl, h0, r0⟩ := trodAll_cons hA
  obtain ⟨v1, vs1, d1, ds1, p1, q1, rfl, rfl, rfl, h1, r1⟩ := trodAll_cons r0
  obtain ⟨v2, vs2, d2, ds2, p2, q2, rfl, rfl, rfl, h2, r2⟩ := trodAll_cons r1
  obtain ⟨v3, vs3, d3, ds3, p3, q3, rfl, rfl, rfl, h3, r3⟩ := trodAll_cons r2
  obtain ⟨rfl, rfl, rfl⟩ := trodAll_nil r3
  obtain rfl : args = #[v0, v1, v2, v3] := by cases args; simp_all
  obtain ⟨rfl, rfl⟩ := trodVars_none hV
  have k0 := h0
  have lt0 : ∀ x ∈ p0, x.block < W.heap.size := by obtain ⟨m, hm⟩ := k0; exact DataW.trod_lt m _ _ _ hm
  obtain ⟨x0, rfl, w0⟩ := dec_int Try.underlying22 (hval 0 22 v0 rfl rfl) h0
  have k1 := h1
  have lt1 : ∀ x ∈ p1, x.block < W.heap.size := by obtain ⟨m, hm⟩ := k1; exact DataW.trod_lt m _ _ _ hm
  obtain ⟨x1, rfl, w1⟩ := dec_int Try.underlying22 (hval 1 22 v1 rfl rfl) h1
  have k2 := h2
  have lt2 : ∀ x ∈ p2, x.block < W.heap.size := by obtain ⟨m, hm⟩ := k2; exact DataW.trod_lt m _ _ _ hm
  obtain ⟨x2, rfl, w2⟩ := dec_int Try.underlying3 (hval 2 3 v2 rfl rfl) h2
  have k3 := h3
  have lt3 : ∀ x ∈ p3, x.block < W.heap.size := by obtain ⟨m, hm⟩ := k3; exact DataW.trod_lt m _ _ _ hm
  obtain ⟨a3, n3, c3, l3, rfl, w3⟩ := Li.dec (hval 3 23 v3 rfl rfl) h3
  clear hA0 hval0
  refine (mergeWhole_walk x0 w0 x1 w1 x2 w2 w3).mono fun e W' ⟨he, bel⟩ => ?_
  subst he
  exact ⟨_, rfl, _, _, _, [], _, [], hW', trodAll_mk1 (shut_bool Try.underlying4 _), (trodAll_cons_mk (Below.trod laidOut (by kernel_rfl) (of_decide_eq_true (by kernel_rfl)) k0 bel lt0) (trodAll_cons_mk (Below.trod laidOut (by kernel_rfl) (of_decide_eq_true (by kernel_rfl)) k1 bel lt1) (trodAll_cons_mk (Below.trod laidOut (by kernel_rfl) (of_decide_eq_true (by kernel_rfl)) k2 bel lt2) (trodAll_cons_mk (Below.trod laidOut (by kernel_rfl) (of_decide_eq_true (by kernel_rfl)) k3 bel lt3) trodAll_mk0)))), rfl, bel.frame _, fun h => by cases h⟩

theorem over : Rows.mergeWholeRow.holds Try.pinned (OpenSpec.ofChange Rows.mergeWholeSpec) :=
  OpenClaim.holds_of_wide 4 Try.f4 rfl rfl rfl rfl rfl rfl rfl ⟨rfl, rfl, rfl, rfl, rfl⟩ rfl rfl rfl rfl rfl (by kernel_rfl) Try.func4 (by kernel_rfl)
    (of_decide_eq_true (by kernel_rfl)) (by unfold Func.isWrapper; first | (rw [if_pos (by decide +kernel)]; kernel_rfl) | (rw [if_neg (by decide +kernel)]; exact ⟨rfl, rfl⟩))
    (fun os started H enc _ => lifted os started H enc)
/-- The given statement. -/
theorem proved : Rows.MergeWholeSaid := over
end mergeWhole

end Go.Proofs.Ytoopeppcmoolgaa

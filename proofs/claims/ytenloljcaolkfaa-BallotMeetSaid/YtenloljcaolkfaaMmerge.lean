/- merge.Merge. -/
import Derived.Test.YtenloljcaolkfaaMdata
namespace Go.Proofs.Ytenloljcaolkfaa
open Go.RowKit
set_option maxRecDepth 20000

/-- What Merge tells. -/
def TMerge (w : World) (base term : Nat) (n : Int) (Ls : List Li) (r : Ending) (w' : World) : Prop :=
  ∃ A c es, r = .returned (.slice A (hadN (hasE Ls base) 192) c) ∧ Ents w' A (hadN (hasE Ls base) 192) c es ∧ (∀ j, j < hadN (hasE Ls base) 192 → ∃ A' c', es[j]? = some ((goes base term n Ls (hadN (hasE Ls base) 192) j).put A' c')) ∧ Below w.heap.size w w'
theorem core_snoc {f : Nat → En} {es : List En} {k : Nat} {p : En} (hl : es.length = k) (h : ∀ j e, es[j]? = some e → Core (f j) e) (hp : Core (f k) p) : ∀ j e, (es ++ [p])[j]? = some e → Core (f j) e := by
  intro j e he
  rcases Nat.lt_or_ge j es.length with h1 | h1
  · rw [List.getElem?_append_left h1] at he
    exact h j e he
  · rw [List.getElem?_append_right h1] at he
    obtain ⟨h2, h3⟩ := List.getElem?_eq_some_iff.1 he
    simp only [List.length_singleton] at h2
    obtain rfl : j = k := by omega
    simp only [List.getElem_singleton] at h3
    rw [← h3]
    exact hp
theorem noop_reads {X term : Nat} {w : World} (hX : X < 18446744073709551616) (ht : term < 18446744073709551616) : En.Reads ⟨X, term, 0, 2, 0, 0, 0, 0, [], none, 0, 0, []⟩ w :=
  ⟨hX, ht, show 0 < 18446744073709551616 by decide, show (Lit.int .i64 2).wf = true by decide, ⟨show 0 < 18446744073709551616 by decide, show 0 < 18446744073709551616 by decide, show 0 < 4294967296 by decide, show 0 < 4294967296 by decide⟩, Nat.zero_le _, Rd.nil_, rfl, fun _ h => by cases h⟩
theorem made_goes {Ls : List Li} {base term H k : Nat} {m : Int} {es : List En} {e : En} (he : es[k]? = some e) (hc : ∀ j e, es[j]? = some e → Core (srcE Ls base j) e) (hk : k < es.length) (A : Option Addr) (c : Nat) :
    (goes base term m Ls H k).put A c = ⟨e.ix, term, base + 1 + H, e.kd, e.cl, e.rq, e.fr, e.ct, e.da, A, mk m k, c, mades (es.take k) (mk m k)⟩ := by
  have h := hc k e he
  rw [mades_core (Nat.le_of_lt hk) hc, h.ix, h.kd, h.cl, h.rq, h.fr, h.ct, h.da, srcE_ix]
  rfl
theorem made_reads {w : World} {e : En} {term st k B : Nat} {m : Int} {A : Option Addr} {c : Nat} {es : List En} (h : e.Reads w) (ht : term < 18446744073709551616) (hs : st < 18446744073709551616)
    (ho : w.ownsRow B 78 4 (.slice A (mk m k) c) (mk m k) (lks (mades (es.take k) (mk m k)))) (hl : ∀ e ∈ es, e.look.Ok) (hk : k ≤ es.length) :
    En.Reads ⟨e.ix, term, st, e.kd, e.cl, e.rq, e.fr, e.ct, e.da, A, mk m k, c, mades (es.take k) (mk m k)⟩ w := by
  have hm : mk m k ≤ k := by unfold mk; omega
  refine ⟨h.ix, ht, hs, h.kd, h.look, h.da, ownsRow_rd ho, mades_len _ _ (by rw [List.length_take]; omega), fun l hm => ?_⟩
  unfold mades at hm
  obtain ⟨d, hd, rfl⟩ := List.mem_map.1 hm
  exact hl d (List.mem_of_mem_take (List.mem_reverse.1 (List.mem_of_mem_take hd)))
theorem own_k {w : World} {base k : Nat} {v : Value} {es : List En} (h : es.length = k) (ho : w.ownsRow base 55 10 v es.length (ens es)) : w.ownsRow base 55 10 v k (ens es) := by
  rwa [h] at ho
set_option maxHeartbeats 8000000 in
theorem merge_any {w : World} {A : Option Addr} {n c : Nat} {Ls : List Li} (h : Slc Li.lay w A n c Ls) (hf : ∀ e ∈ flat Ls, e.bn ≤ 200) (base term : Nat) (hb : base ≤ 4611686018427387904) (ht : term < 18446744073709551616) (m : Int) :
    Calls Try.prog 26 #[.int .u64 (base : Int), .int .u64 (term : Int), .int .i64 m, .slice A n c] w (TMerge w base term m Ls) := by
  have HH := Lib.hid h
  have HF := Lib.hid hf
  have HT := Lib.hid ht
  have hbi : (base : Int) ≤ 4611686018427387904 := by omega
  have hbi0 : (0 : Int) ≤ (base : Int) := by omega
  have q1 : min (192 : Int) (18446744073709551615 - (base : Int)) = 192 := by omega
  have q2 : (if (18446744073709551615 - (base : Int)) < 192 then (18446744073709551615 - (base : Int)) else 192) = 192 := by rw [if_neg (by omega)]
  obtain ⟨H, hH⟩ : ∃ H, hadN (hasE Ls base) 192 = H := ⟨_, rfl⟩
  unfold TMerge
  rw [hH]
  have HHH := Lib.hid hH
  clear h hf ht hb hH
  go_enter Try.func26, Try.ntmps26
  go_wp2_with (fail)
  clear q1 q2
  go_loopw [9, 10, 11, 12, 14, 19] (fun ov hv _ _ _ kv wr => ∃ (k : Nat) (es : List En), k ≤ 192 ∧ kv = .int .u64 (k : Int) ∧ hv = .int .i64 ((hadN (hasE Ls base) k : Nat) : Int) ∧ Hid (es.length = k) ∧ Hid (∀ j e, es[j]? = some e → Core (srcE Ls base j) e) ∧ Hid (M1 w wr ov es)) (fun _ _ _ _ _ kv _ => 192 - (intOf kv).toNat)
  case atStart => exact ⟨0, [], Nat.zero_le _, rfl, rfl, Lib.hid rfl, Lib.hid (fun j e h => by cases h), Lib.hid ⟨Below.refl _ _, World.ownsRow_nil w _ _ _, fun _ h => (by cases h), fun _ h => (by cases h)⟩⟩
  case round =>
    obtain ⟨k, es, hk, rfl, rfl, HLE, HC, HM⟩ := hrel
    by_cases hlt : k < 192
    · have hki : (k : Int) < 192 := by omega
      have hki0 : (0 : Int) ≤ (k : Int) := by omega
      obtain ⟨X, hX⟩ : ∃ X : Nat, X = base + 1 + k := ⟨_, rfl⟩
      have hX64 : X < 18446744073709551616 := by omega
      have v1 : IntKind.u64.wrap ((base : Int) + 1) = (base : Int) + 1 := u64w _ (by omega) (by omega)
      have v2 : IntKind.u64.wrap ((base : Int) + 1 + (k : Int)) = (X : Int) := by rw [u64w _ (by omega) (by omega)]; omega
      have v3 : IntKind.u64.wrap ((k : Int) + 1) = (k : Int) + 1 := u64w _ (by omega) (by omega)
      have hsrc : srcE Ls base k = (bst Ls X).getD ⟨X, 0, 0, 2, 0, 0, 0, 0, [], none, 0, 0, []⟩ := by unfold srcE; rw [← hX]
      have hhad : hadN (hasE Ls base) (k + 1) = if (bst Ls X).isSome = true then k + 1 else hadN (hasE Ls base) k := by
        show (if hasE Ls base k = true then k + 1 else hadN (hasE Ls base) k) = _
        unfold hasE
        rw [← hX]
      have HBE := Lib.hid (best_any (HH.out.below HM.out.bel) HF.out X hX64)
      have hbix : ∀ e, bst Ls X = some e → e.ix = X ∧ e.Reads w := fun e he => ⟨(bestOf_ix he).1, flat_reads HH.out e (bestOf_mem he)⟩
      have hhle := hadN_le (hasE Ls base) k
      have HSRC := Lib.hid hsrc
      have HHAD := Lib.hid hhad
      have HKX := Lib.hid hX
      have HX64 := Lib.hid hX64
      have HLT := Lib.hid hlt
      have hhi : ((hadN (hasE Ls base) k : Nat) : Int) ≤ 192 := by omega
      clear hX hsrc hhad hhle hX64 hlt
      generalize hadN (hasE Ls base) k = hd at *
      obtain ⟨A0, c0, hv0⟩ := ownsRow_form HM.out.own
      subst hv0
      rw [HLE.out] at HM ⊢
      have HAP := Lib.hid (fun x (hx : (Value.slice A0 k c0).ownBlock = some x) => (HM.out.own.lt x hx).2)
      have hc0 : (k : Int) ≤ 192 := by omega
      cases hb : bst Ls X with
      | none =>
        clear hbix
        rw [hb] at HBE HSRC HHAD
        unfold TBest curE En.put at HBE
        dsimp only [Option.getD_none, Option.isSome_none] at HBE
        unfold Ez enNil En.cells at HBE
        dsimp only at HBE
        have HNO := Lib.hid (fun W => noop_any X term 0 W)
        unfold En.cells at HNO
        dsimp only at HNO
        go_wp2_with (first
          | (go_at_call 38; refine HBE.out.mono ?_; rintro e w1 ⟨A1, c1, rfl, hr1, hA1, hb1⟩
             have HM1 := Lib.hid (HM.out.below hb1)
             clear hb1 hA1 hr1)
          | (go_at_call 39; refine (HNO.out _).mono ?_; rintro e w2 ⟨rfl, hb2⟩
             have HR2 := Lib.hid (row_below (heap_alloc_new w1 (.cells #[.int .u64 0, .int .u64 0, .int .u64 0, .int .i64 0, .int .u64 0, .int .u64 0, .int .u32 0, .int .u32 0, .string ⟨#[]⟩, .slice A1 0 c1] 55)) hb2)
             have HM2 := Lib.hid ((HM1.out.below ((Below.refl _ _).alloc (Nat.le_refl _) (.cells #[.int .u64 0, .int .u64 0, .int .u64 0, .int .i64 0, .int .u64 0, .int .u64 0, .int .u32 0, .int .u32 0, .string ⟨#[]⟩, .slice A1 0 c1] 55))).below hb2)
             have HM3 := Lib.hid (fun W (hg : w2.grownBy W (some w1.heap.size)) => HM1.out.below ((((Below.refl _ _).alloc (Nat.le_refl _) _).trans (hb2.mono (by simp))).grown hg (Nat.le_trans (by simp) hb2.size) (fun k e => by cases e; exact Nat.le_refl _)))
             clear hb2)
          | (refine wpL_estore rfl (.tmp 13) (.tmp 36) rfl (e := ⟨X, term, 0, 2, 0, 0, 0, 0, [], none, 0, 0, []⟩) (d := ⟨0, 0, 0, 0, 0, 0, 0, 0, [], A1, 0, c1, []⟩) rfl rfl HR2.out ?_
             intro W9 hr9 hg9 hz9
             have HM4 := Lib.hid (HM3.out W9 hg9)
             have HR9 := Lib.hid hr9.out)
          | (refine wpL_midk rfl _ (.tmp 13) rfl _ rfl (.agg #[.int .u64 (X : Int), .int .u64 (term : Int), .int .u64 ((0 : Nat) : Int), .int .i64 2, .int .u64 ((0 : Nat) : Int), .int .u64 ((0 : Nat) : Int), .int .u32 ((0 : Nat) : Int), .int .u32 ((0 : Nat) : Int), .string (str []), .slice none 0 0]) (e_loads (e := ⟨X, term, 0, 2, 0, 0, 0, 0, [], none, 0, 0, []⟩) HR9.out) ?_; intro K hK; go_simp; refine hK _ _ ?_; clear hK K)
          | (at_builtin
             refine wpL_app (o := ⟨some 40, _, _, _, _, _⟩) (v := .slice A0 k c0) (y := .slice (some ⟨W9.heap.size, 0, none⟩) 1 1) rfl (.tmp 37) (.tmp 39) _ _ rfl E_en rfl rfl (own_k HLE.out (HM4.out.below ((Below.refl _ _).alloc (Nat.le_refl _) _)).own) (Src.lit' rfl (n := 1) (sz := 10) Try.underlying23 #[.int .u64 (X : Int), .int .u64 (term : Int), .int .u64 ((0 : Nat) : Int), .int .i64 2, .int .u64 ((0 : Nat) : Int), .int .u64 ((0 : Nat) : Int), .int .u32 ((0 : Nat) : Int), .int .u32 ((0 : Nat) : Int), .string (str []), .slice none 0 0] rfl (by simp [Value.oneCell'])) (by unfold maxLen; omega) (by omega) (Nat.le_trans HM4.out.bel.size (by simp)) ?_
             intro v3 w3 hown3 hg3 hat3
             obtain ⟨A3, c3, rfl⟩ := ownsRow_form hown3)
          | fail)
        go_roundw
        case rel =>
          refine ⟨k + 1, es ++ [⟨X, term, 0, 2, 0, 0, 0, 0, [], none, 0, 0, []⟩], by have := HLT.out; omega, by go_num, ?_, ?_, ?_, ?_⟩
          · rw [HHAD.out]; rfl
          · exact Lib.hid (by rw [List.length_append, HLE.out]; rfl)
          · exact Lib.hid (core_snoc HLE.out HC.out (by rw [HSRC.out]; exact ⟨rfl, rfl, rfl, rfl, rfl, rfl, rfl⟩))
          · refine Lib.hid ((HM4.out.below ((Below.refl _ _).alloc (Nat.le_refl _) _)).app (by rw [HLE.out]; exact hown3) (by rw [HLE.out] at *; exact hg3) (by rw [HLE.out] at *; exact hat3) (noop_reads HX64.out HT.out) (fun h => absurd h (Nat.lt_irrefl _)))
        case measure => have := HLT.out; simp [intOf]; omega
      | some e0 =>
        obtain ⟨hix, hr0⟩ := hbix e0 hb
        clear hbix
        rw [hb] at HBE HSRC HHAD
        unfold TBest curE En.put at HBE
        dsimp only [Option.getD_some, Option.isSome_some] at HBE
        obtain ⟨ix, tm, st, kd, cl, rq, fr, ct, da, A9, bn, c9, ls⟩ := e0
        unfold En.cells at HBE
        dsimp only at HBE hix
        subst hix
        go_wp2_with (first
          | (go_at_call 38; refine HBE.out.mono ?_; rintro e w1 ⟨A1, c1, rfl, hr1, hA1, hb1⟩
             have HM1 := Lib.hid (HM.out.below hb1)
             have HM2 := Lib.hid (HM1.out.below ((Below.refl _ _).alloc (Nat.le_refl _) (.cells #[.int .u64 (ix : Int), .int .u64 (tm : Int), .int .u64 (st : Int), .int .i64 kd, .int .u64 (cl : Int), .int .u64 (rq : Int), .int .u32 (fr : Int), .int .u32 (ct : Int), .string (str da), .slice A1 bn c1] 55)))
             have HR1 := Lib.hid hr1
             have HA1 := Lib.hid hA1
             clear hb1 hA1 hr1)
          | (at_builtin
             refine wpL_app (o := ⟨some 40, _, _, _, _, _⟩) (v := .slice A0 k c0) (y := .slice (some ⟨w1.heap.size + 1, 0, none⟩) 1 1) rfl (.tmp 37) (.tmp 39) _ _ rfl E_en rfl rfl (own_k HLE.out (HM2.out.below ((Below.refl _ _).alloc (Nat.le_refl _) _)).own) (Src.lit' (by simp) (n := 1) (sz := 10) Try.underlying23 #[.int .u64 (ix : Int), .int .u64 (tm : Int), .int .u64 (st : Int), .int .i64 kd, .int .u64 (cl : Int), .int .u64 (rq : Int), .int .u32 (fr : Int), .int .u32 (ct : Int), .string (str da), .slice A1 bn c1] rfl (by simp [Value.oneCell'])) (by unfold maxLen; omega) (by omega) (Nat.le_trans HM2.out.bel.size (by simp)) ?_
             intro v3 w3 hown3 hg3 hat3
             obtain ⟨A3, c3, rfl⟩ := ownsRow_form hown3)
          | fail)
        go_roundw
        case rel =>
          refine ⟨k + 1, es ++ [⟨ix, tm, st, kd, cl, rq, fr, ct, da, A1, bn, c1, ls⟩], by have := HLT.out; omega, by go_num, ?_, ?_, ?_, ?_⟩
          · rw [HHAD.out]; rfl
          · exact Lib.hid (by rw [List.length_append, HLE.out]; rfl)
          · exact Lib.hid (core_snoc HLE.out HC.out (by rw [HSRC.out]; exact ⟨rfl, rfl, rfl, rfl, rfl, rfl, rfl⟩))
          · refine Lib.hid ((HM2.out.below ((Below.refl _ _).alloc (Nat.le_refl _) _)).app (by rw [HLE.out]; exact hown3) hg3 hat3 (HR1.out.below (((Below.refl _ _).alloc (Nat.le_refl _) _).alloc (by simp) _)) (fun _ x hA e => ?_))
            have h1 := HA1.out x hA
            have h2 := HAP.out x.block e
            omega
        case measure => have := HLT.out; simp [intOf]; omega
    · obtain rfl : k = 192 := by omega
      rw [show ((192 : Nat) : Int) = 192 from rfl]
      obtain ⟨g, c0, rest, hv, hcc, hcm, HM2⟩ := HM.out.row (by rw [HLE.out]; decide)
      subst hv
      have HM3 := Lib.hid HM2
      clear HM2
      have hHle := hadN_le (hasE Ls base) 192
      rw [HHH.out] at hHle ⊢
      rw [HLE.out] at hcc ⊢
      have hHi : (H : Int) ≤ 192 := by omega
      have hci : (192 : Int) ≤ (c0 : Int) := by omega
      have hHc : (H : Int) ≤ (c0 : Int) := by omega
      have hcM : (c0 : Int) ≤ 9223372036854775807 := by unfold maxLen at hcm; omega
      have HCM := Lib.hid (And.intro hcc hcm)
      clear hlt hk HM hcc hcm
      go_wp2_with (fail)
      obtain ⟨wo, rfl⟩ : ∃ wo : World, wo = wr := ⟨_, rfl⟩
      go_loopw [15, 50] (fun _ kv wr => ∃ (k : Nat) (es : List En), k ≤ H ∧ kv = .int .i64 (k : Int) ∧ Hid (es.length = 192) ∧ Hid (∀ j e, es[j]? = some e → Core (srcE Ls base j) e) ∧ Hid (∀ j, j < k → ∃ A' c', es[j]? = some ((goes base term m Ls H j).put A' c')) ∧ Hid (M2 w wr g es rest)) (fun _ kv _ => H - (intOf kv).toNat)
      case atStart => exact ⟨0, es, Nat.zero_le _, rfl, HLE, HC, Lib.hid (fun j h => absurd h (Nat.not_lt_zero _)), HM3⟩
      case round =>
        clear HM3 HLE HC
        clear es
        obtain ⟨k, es, hk, rfl, HLE, HC, HG, HM2⟩ := hrel
        by_cases hlt : k < H
        · obtain ⟨e0, he⟩ : ∃ e0, es[k]? = some e0 := ⟨_, List.getElem?_eq_getElem (by have := HLE.out; omega)⟩
          have hki : (k : Int) < (H : Int) := by omega
          have v1 : IntKind.u64.wrap ((base : Int) + 1) = (base : Int) + 1 := u64w _ (by omega) (by omega)
          have v4 : IntKind.u64.wrap (H : Int) = (H : Int) := u64w _ (by omega) (by omega)
          have v5 : IntKind.u64.wrap ((base : Int) + 1 + (H : Int)) = ((base + 1 + H : Nat) : Int) := by rw [u64w _ (by omega) (by omega)]; omega
          have hle10 : ∀ f v, f < 10 → e0.cells[f]? = some v → (ens es ++ rest)[k * 10 + f]? = some v := fun f v hf hv => by
            have := ens_get es k e0 he f v hv
            rw [List.getElem?_append_left (List.getElem?_eq_some_iff.1 this).1]
            exact this
          have c1 : wr.cell? ⟨g, k * 10 + 1, none⟩ = some (.int .u64 (e0.tm : Int)) := by rw [cell_of_row wr g _ _ _ _ HM2.out.row, List.getElem?_toArray]; exact hle10 1 _ (by decide) rfl
          have c2 : wr.cell? ⟨g, k * 10 + 2, none⟩ = some (.int .u64 (e0.st : Int)) := by rw [cell_of_row wr g _ _ _ _ HM2.out.row, List.getElem?_toArray]; exact hle10 2 _ (by decide) rfl
          have f1 := frozen_of_row wr g (k * 10 + 1) _ _ HM2.out.row
          have f2 := frozen_of_row wr g (k * 10 + 2) _ _ HM2.out.row
          have hre := HM2.out.reads e0 (List.mem_of_getElem? he)
          have hap := HM2.out.apart e0 (List.mem_of_getElem? he)
          have HS2 := HM2.out.set2 he (tm := term) (st := base + 1 + H) HT.out (by omega)
          rw [show ((base + 1 + H : Nat) : Int) = (base : Int) + 1 + (H : Int) by omega] at HS2
          have HM4 := Lib.hid HS2
          have HE := Lib.hid he
          have HRE := Lib.hid hre
          have HLT := Lib.hid hlt
          have HKL := Lib.hid (show k < es.length by have := HLE.out; omega)
          have HB5 := Lib.hid (show base + 1 + H < 18446744073709551616 by omega)
          clear he hle10 hlt hre hap HS2
          go_wp2_with (first
            | (go_at_call 40
               refine (make_any (HM4.out.ents (Nat.le_of_lt (by rw [List.length_set]; exact HKL.out)) (Nat.le_trans (Nat.le_of_lt HLT.out) (by omega)) HCM.out.2) (by omega) m).mono ?_
               rintro e w4 ⟨v4, rfl, hown4, hb4⟩
               obtain ⟨A4, c4, rfl⟩ := ownsRow_form hown4
               have HM5 := Lib.hid (HM4.out.below hb4)
               have HO4 := Lib.hid hown4
               have c9 := cell_of_row w4 g (k * 10 + 9) _ _ _ HM5.out.row
               have f9 := frozen_of_row w4 g (k * 10 + 9) _ _ HM5.out.row
               rw [List.getElem?_toArray, List.getElem?_append_left (by rw [ens_len, List.length_set]; have := HKL.out; omega), ens_get _ k _ (by rw [List.getElem?_set_self HKL.out]) 9 _ rfl] at c9
               clear hb4 hown4)
            | fail)
          go_roundw
          case rel =>
            have hmd : (es.set k (e0.led term (base + 1 + H))).take k = es.take k := by rw [List.take_set_of_le (Nat.le_refl _)]
            rw [hmd] at HO4
            have hfin := made_goes HE.out HC.out HKL.out (term := term) (H := H) (m := m) A4 c4
            have hset := HM5.out.set (k := k) (f := 9) (e := e0.led term (base + 1 + H)) (e' := (goes base term m Ls H k).put A4 c4) (v := .slice A4 (mk m k) c4) (by rw [List.getElem?_set_self HKL.out]) (by decide) (by rw [hfin]; rfl)
              (by rw [hfin]; exact made_reads (e := e0.led term (base + 1 + H)) (HM5.out.reads (e0.led term (base + 1 + H)) (List.mem_of_getElem? (by rw [List.getElem?_set_self HKL.out]))) HT.out HB5.out HO4.out (fun e he => (HM2.out.reads e he).look) (by have := HKL.out; omega))
              (fun _ x hA hx => by
                have h1 := (HO4.out.lt x.block (by rw [show A4 = some x from hA]; rfl)).1
                have h2 := (Array.getElem?_eq_some_iff.1 HM4.out.row).1
                omega)
            rw [List.set_set] at hset
            refine ⟨k + 1, es.set k ((goes base term m Ls H k).put A4 c4), HLT.out, by go_num, Lib.hid (by rw [List.length_set]; exact HLE.out), Lib.hid (fun j e hj => ?_), Lib.hid (fun j hj => ?_), Lib.hid hset⟩
            · by_cases hjk : k = j
              · subst hjk
                rw [List.getElem?_set_self HKL.out] at hj
                cases hj
                exact ⟨(srcE_ix Ls base k).symm, rfl, rfl, rfl, rfl, rfl, rfl⟩
              · rw [List.getElem?_set_ne hjk] at hj
                exact HC.out j e hj
            · by_cases hjk : k = j
              · subst hjk
                exact ⟨A4, c4, by rw [List.getElem?_set_self HKL.out]⟩
              · obtain ⟨A', c', h⟩ := HG.out j (by omega)
                exact ⟨A', c', by rw [List.getElem?_set_ne hjk]; exact h⟩
          case measure => have := HLT.out; simp [intOf]; omega
        · obtain rfl : k = H := by omega
          go_wp2
          go_ret
          exact ⟨_, _, _, rfl, HM2.out.ents (by have := HLE.out; omega) (by have := HCM.out; omega) HCM.out.2, fun j hj => by
            obtain ⟨A', c', h⟩ := HG.out j hj
            exact ⟨A', c', by rw [List.getElem?_take, if_pos hj]; exact h⟩, HM2.out.bel⟩
end Go.Proofs.Ytenloljcaolkfaa

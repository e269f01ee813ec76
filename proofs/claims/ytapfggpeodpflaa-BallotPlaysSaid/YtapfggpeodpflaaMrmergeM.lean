/- merge.Merge. The reference's Merge. -/
import Derived.Test.YtapfggpeodpflaaMrlastM
namespace Go.Proofs.Ytapfggpeodpflaa
open Go.RowKit
set_option maxRecDepth 20000

/-- What Merge tells. -/
def TMerge (w : World) (base term : Nat) (n : Int) (Ls : List Li) (r : Ending) (w' : World) : Prop :=
  ∃ A c es, r = .returned (.slice A (hadN (hasE Ls base) 192) c) ∧ Ents w' A (hadN (hasE Ls base) 192) c es ∧ (∀ j, j < hadN (hasE Ls base) 192 → ∃ A' c', es[j]? = some ((goes base term n Ls (hadN (hasE Ls base) 192) j).put A' c')) ∧ Below w.heap.size w w'
theorem core_snoc {f : Nat → En} {es : List En} {k : Nat} {p : En} (hl : es.length = k) (h : ∀ j e, es[j]? = some e → Core (f j) e) (hp : Core (f k) p) : ∀ j e, (es ++ [p])[j]? = some e → Core (f j) e := by
  intro j e he
  rcases Nat.lt_or_ge j es.length with h1 | h1
  · rw [List.getElem?_append_left h1] at he
    exact h j e he
  · rw [List.getElem?_append_right h1] at he
    obtain ⟨h2, h3⟩ := List.getElem?_eq_some_iff.1 he
    simp only [List.length_singleton] at h2
    obtain rfl : j = k := by omega
    simp only [List.getElem_singleton] at h3
    rw [← h3]
    exact hp
theorem noop_reads {X term : Nat} {w : World} (hX : X < 18446744073709551616) (ht : term < 18446744073709551616) : En.Reads ⟨X, term, 0, 2, 0, 0, 0, 0, [], none, 0, 0, []⟩ w :=
  ⟨hX, ht, show 0 < 18446744073709551616 by decide, show (Lit.int .i64 2).wf = true by decide, ⟨show 0 < 18446744073709551616 by decide, show 0 < 18446744073709551616 by decide, show 0 < 4294967296 by decide, show 0 < 4294967296 by decide⟩, Nat.zero_le _, Rd.nil_, rfl, fun _ h => by cases h⟩
theorem made_goes {Ls : List Li} {base term H k : Nat} {m : Int} {es : List En} {e : En} (he : es[k]? = some e) (hc : ∀ j e, es[j]? = some e → Core (srcE Ls base j) e) (hk : k < es.length) (A : Option Addr) (c : Nat) :
    (goes base term m Ls H k).put A c = ⟨e.ix, term, base + 1 + H, e.kd, e.cl, e.rq, e.fr, e.ct, e.da, A, mk m k, c, mades (es.take k) (mk m k)⟩ := by
  have h := hc k e he
  rw [mades_core (Nat.le_of_lt hk) hc, h.ix, h.kd, h.cl, h.rq, h.fr, h.ct, h.da, srcE_ix]
  rfl
theorem made_reads {w : World} {e : En} {term st k B : Nat} {m : Int} {A : Option Addr} {c : Nat} {es : List En} (h : e.Reads w) (ht : term < 18446744073709551616) (hs : st < 18446744073709551616)
    (ho : w.ownsRow B 78 4 (.slice A (mk m k) c) (mk m k) (lks (mades (es.take k) (mk m k)))) (hl : ∀ e ∈ es, e.look.Ok) (hk : k ≤ es.length) :
    En.Reads ⟨e.ix, term, st, e.kd, e.cl, e.rq, e.fr, e.ct, e.da, A, mk m k, c, mades (es.take k) (mk m k)⟩ w := by
  have hm : mk m k ≤ k := by unfold mk; omega
  refine ⟨h.ix, ht, hs, h.kd, h.look, h.da, ownsRow_rd ho, mades_len _ _ (by rw [List.length_take]; omega), fun l hm => ?_⟩
  unfold mades at hm
  obtain ⟨d, hd, rfl⟩ := List.mem_map.1 hm
  exact hl d (List.mem_of_mem_take (List.mem_reverse.1 (List.mem_of_mem_take hd)))
theorem own_k {w : World} {base k : Nat} {v : Value} {es : List En} (h : es.length = k) (ho : w.ownsRow base 55 10 v es.length (ens es)) : w.ownsRow base 55 10 v k (ens es) := by
  rwa [h] at ho
set_option maxHeartbeats 8000000 in
theorem merge_any {w : World} {A : Option Addr} {n c : Nat} {Ls : List Li} (h : Slc Li.lay w A n c Ls) (hf : ∀ e ∈ flat Ls, e.bn ≤ 200) (base term : Nat) (hb : base ≤ 4611686018427387904) (ht : term < 18446744073709551616) (m : Int) :
    Calls Try.prog 26 #[.int .u64 (base : Int), .int .u64 (term : Int), .int .i64 m, .slice A n c] w (TMerge w base term m Ls) := by
  have HH := Lib.hid h
  have HF := Lib.hid hf
  have HT := Lib.hid ht
  have hbi : (base : Int) ≤ 4611686018427387904 := by omega
  have hbi0 : (0 : Int) ≤ (base : Int) := by omega
  have q1 : min (192 : Int) (18446744073709551615 - (base : Int)) = 192 := by omega
  have q2 : (if (18446744073709551615 - (base : Int)) < 192 then (18446744073709551615 - (base : Int)) else 192) = 192 := by rw [if_neg (by omega)]
  obtain ⟨H, hH⟩ : ∃ H, hadN (hasE Ls base) 192 = H := ⟨_, rfl⟩
  unfold TMerge
  rw [hH]
  have HHH := Lib.hid hH
  clear h hf ht hb hH
  go_enter Try.func26, Try.ntmps26
  go_wp2_with (fail)
  clear q1 q2
  go_loopw [9, 10, 11, 12, 14, 19] (fun ov hv _ _ _ kv wr => ∃ (k : Nat) (es : List En), k ≤ 192 ∧ kv = .int .u64 (k : Int) ∧ hv = .int .i64 ((hadN (hasE Ls base) k : Nat) : Int) ∧ Hid (es.length = k) ∧ Hid (∀ j e, es[j]? = some e → Core (srcE Ls base j) e) ∧ Hid (M1 w wr ov es)) (fun _ _ _ _ _ kv _ => 192 - (intOf kv).toNat)
  case atStart => exact ⟨0, [], Nat.zero_le _, rfl, rfl, Lib.hid rfl, Lib.hid (fun j e h => by cases h), Lib.hid ⟨Below.refl _ _, World.ownsRow_nil w _ _ _, fun _ h => (by cases h), fun _ h => (by cases h)⟩⟩
  case round =>
    obtain ⟨k, es, hk, rfl, rfl, HLE, HC, HM⟩ := hrel
    by_cases hlt : k < 192
    · have hki : (k : Int) < 192 := by omega
      have hki0 : (0 : Int) ≤ (k : Int) := by omega
      obtain ⟨X, hX⟩ : ∃ X : Nat, X = base + 1 + k := ⟨_, rfl⟩
      have hX64 : X < 18446744073709551616 := by omega
      have v1 : IntKind.u64.wrap ((base : Int) + 1) = (base : Int) + 1 := u64w _ (by omega) (by omega)
      have v2 : IntKind.u64.wrap ((base : Int) + 1 + (k : Int)) = (X : Int) := by rw [u64w _ (by omega) (by omega)]; omega
      have v3 : IntKind.u64.wrap ((k : Int) + 1) = (k : Int) + 1 := u64w _ (by omega) (by omega)
      have hsrc : srcE Ls base k = (bst Ls X).getD ⟨X, 0, 0, 2, 0, 0, 0, 0, [], none, 0, 0, []⟩ := by unfold srcE; rw [← hX]
      have hhad : hadN (hasE Ls base) (k + 1) = if (bst Ls X).isSome = true then k + 1 else hadN (hasE Ls base) k := by
        show (if hasE Ls base k = true then k + 1 else hadN (hasE Ls base) k) = _
        unfold hasE
        rw [← hX]
      have HBE := Lib.hid (best_any (HH.out.below HM.out.bel) HF.out X hX64)
      have hbix : ∀ e, bst Ls X = some e → e.ix = X ∧ e.Reads w := fun e he => ⟨(bestOf_ix he).1, flat_reads HH.out e (bestOf_mem he)⟩
      have hhle := hadN_le (hasE Ls base) k
      have HSRC := Lib.hid hsrc
      have HHAD := Lib.hid hhad
      have HKX := Lib.hid hX
      have HX64 := Lib.hid hX64
      have HLT := Lib.hid hlt
      have hhi : ((hadN (hasE Ls base) k : Nat) : Int) ≤ 192 := by omega
      clear hX hsrc hhad hhle hX64 hlt
      generalize hadN (hasE Ls base) k = hd at *
      obtain ⟨A0, c0, hv0⟩ := ownsRow_form HM.out.own
      subst hv0
      rw [HLE.out] at HM ⊢
      have HAP := Lib.hid (fun x (hx : (Value.slice A0 k c0).ownBlock = some x) => (HM.out.own.lt x hx).2)
      have hc0 : (k : Int) ≤ 192 := by omega
      cases hb : bst Ls X with
      | none =>
        clear hbix
        rw [hb] at HBE HSRC HHAD
        unfold TBest curE En.put at HBE
        dsimp only [Option.getD_none, Option.isSome_none] at HBE
        unfold Ez enNil En.cells at HBE
        dsimp only at HBE
        have HNO := Lib.hid (fun W => noop_any X term 0 W)
        unfold En.cells at HNO
        dsimp only at HNO
        go_wp2_with (first
          | (go_at_call 38; refine HBE.out.mono ?_; rintro e w1 ⟨A1, c1, rfl, hr1, hA1, hb1⟩
             have HM1 := Lib.hid (HM.out.below hb1)
             clear hb1 hA1 hr1)
          | (go_at_call 39; refine (HNO.out _).mono ?_; rintro e w2 ⟨rfl, hb2⟩
             have HR2 := Lib.hid (row_below (heap_alloc_new w1 (.cells #[.int .u64 0, .int .u64 0, .int .u64 0, .int .i64 0, .int .u64 0, .int .u64 0, .int .u32 0, .int .u32 0, .string ⟨#[]⟩, .slice A1 0 c1] 55)) hb2)
             have HM2 := Lib.hid ((HM1.out.below ((Below.refl _ _).alloc (Nat.le_refl _) (.cells #[.int .u64 0, .int .u64 0, .int .u64 0, .int .i64 0, .int .u64 0, .int .u64 0, .int .u32 0, .int .u32 0, .string ⟨#[]⟩, .slice A1 0 c1] 55))).below hb2)
             have HM3 := Lib.hid (fun W (hg : w2.grownBy W (some w1.heap.size)) => HM1.out.below ((((Below.refl _ _).alloc (Nat.le_refl _) _).trans (hb2.mono (by simp))).grown hg (Nat.le_trans (by simp) hb2.size) (fun k e => by cases e; exact Nat.le_refl _)))
             clear hb2)
          | (refine wpL_estore rfl (.tmp 13) (.tmp 36) rfl (e := ⟨X, term, 0, 2, 0, 0, 0, 0, [], none, 0, 0, []⟩) (d := ⟨0, 0, 0, 0, 0, 0, 0, 0, [], A1, 0, c1, []⟩) rfl rfl HR2.out ?_
             intro W9 hr9 hg9 hz9
             have HM4 := Lib.hid (HM3.out W9 hg9)
             have HR9 := Lib.hid hr9.out)
          | (refine wpL_midk rfl _ (.tmp 13) rfl _ rfl (.agg #[.int .u64 (X : Int), .int .u64 (term : Int), .int .u64 ((0 : Nat) : Int), .int .i64 2, .int .u64 ((0 : Nat) : Int), .int .u64 ((0 : Nat) : Int), .int .u32 ((0 : Nat) : Int), .int .u32 ((0 : Nat) : Int), .string (str []), .slice none 0 0]) (e_loads (e := ⟨X, term, 0, 2, 0, 0, 0, 0, [], none, 0, 0, []⟩) HR9.out) ?_; intro K hK; go_simp; refine hK _ _ ?_; clear hK K)
          | (at_builtin
             refine wpL_app (o := ⟨some 40, _, _, _, _, _⟩) (v := .slice A0 k c0) (y := .slice (some ⟨W9.heap.size, 0, none⟩) 1 1) rfl (.tmp 37) (.tmp 39) _ _ rfl E_en rfl rfl (own_k HLE.out (HM4.out.below ((Below.refl _ _).alloc (Nat.le_refl _) _)).own) (Src.lit' rfl (n := 1) (sz := 10) Try.underlying23 #[.int .u64 (X : Int), .int .u64 (term : Int), .int .u64 ((0 : Nat) : Int), .int .i64 2, .int .u64 ((0 : Nat) : Int), .int .u64 ((0 : Nat) : Int), .int .u32 ((0 : Nat) : Int), .int .u32 ((0 : Nat) : Int), .string (str []), .slice none 0 0] rfl (by simp [Value.oneCell'])) (by unfold maxLen; omega) (by omega) (Nat.le_trans HM4.out.bel.size (by simp)) ?_
             intro v3 w3 hown3 hg3 hat3
             obtain ⟨A3, c3, rfl⟩ := ownsRow_form hown3)
          | fail)
        go_roundw
        case rel =>
          refine ⟨k + 1, es ++ [⟨X, term, 0, 2, 0, 0, 0, 0, [], none, 0, 0, []⟩], by have := HLT.out; omega, by go_num, ?_, ?_, ?_, ?_⟩
          · rw [HHAD.out]; rfl
          · exact Lib.hid (by rw [List.length_append, HLE.out]; rfl)
          · exact Lib.hid (core_snoc HLE.out HC.out (by rw [HSRC.out]; exact ⟨rfl, rfl, rfl, rfl, rfl, rfl, rfl⟩))
          · refine Lib.hid ((HM4.out.below ((Below.refl _ _).alloc (Nat.le_refl _) _)).app (by rw [HLE.out]; exact hown3) (by rw [HLE.out] at *; exact hg3) (by rw [HLE.out] at *; exact hat3) (noop_reads HX64.out HT.out) (fun h => absurd h (Nat.lt_irrefl _)))
        case measure => have := HLT.out; simp [intOf]; omega
      | some e0 =>
        obtain ⟨hix, hr0⟩ := hbix e0 hb
        clear hbix
        rw [hb] at HBE HSRC HHAD
        unfold TBest curE En.put at HBE
        dsimp only [Option.getD_some, Option.isSome_some] at HBE
        obtain ⟨ix, tm, st, kd, cl, rq, fr, ct, da, A9, bn, c9, ls⟩ := e0
        unfold En.cells at HBE
        dsimp only at HBE hix
        subst hix
        go_wp2_with (first
          | (go_at_call 38; refine HBE.out.mono ?_; rintro e w1 ⟨A1, c1, rfl, hr1, hA1, hb1⟩
             have HM1 := Lib.hid (HM.out.below hb1)
             have HM2 := Lib.hid (HM1.out.below ((Below.refl _ _).alloc (Nat.le_refl _) (.cells #[.int .u64 (ix : Int), .int .u64 (tm : Int), .int .u64 (st : Int), .int .i64 kd, .int .u64 (cl : Int), .int .u64 (rq : Int), .int .u32 (fr : Int), .int .u32 (ct : Int), .string (str da), .slice A1 bn c1] 55)))
             have HR1 := Lib.hid hr1
             have HA1 := Lib.hid hA1
             clear hb1 hA1 hr1)
          | (at_builtin
             refine wpL_app (o := ⟨some 40, _, _, _, _, _⟩) (v := .slice A0 k c0) (y := .slice (some ⟨w1.heap.size + 1, 0, none⟩) 1 1) rfl (.tmp 37) (.tmp 39) _ _ rfl E_en rfl rfl (own_k HLE.out (HM2.out.below ((Below.refl _ _).alloc (Nat.le_refl _) _)).own) (Src.lit' (by simp) (n := 1) (sz := 10) Try.underlying23 #[.int .u64 (ix : Int), .int .u64 (tm : Int), .int .u64 (st : Int), .int .i64 kd, .int .u64 (cl : Int), .int .u64 (rq : Int), .int .u32 (fr : Int), .int .u32 (ct : Int), .string (str da), .slice A1 bn c1] rfl (by simp [Value.oneCell'])) (by unfold maxLen; omega) (by omega) (Nat.le_trans HM2.out.bel.size (by simp)) ?_
             intro v3 w3 hown3 hg3 hat3
             obtain ⟨A3, c3, rfl⟩ := ownsRow_form hown3)
          | fail)
        go_roundw
        case rel =>
          refine ⟨k + 1, es ++ [⟨ix, tm, st, kd, cl, rq, fr, ct, da, A1, bn, c1, ls⟩], by have := HLT.out; omega, by go_num, ?_, ?_, ?_, ?_⟩
          · rw [HHAD.out]; rfl
          · exact Lib.hid (by rw [List.length_append, HLE.out]; rfl)
          · exact Lib.hid (core_snoc HLE.out HC.out (by rw [HSRC.out]; exact ⟨rfl, rfl, rfl, rfl, rfl, rfl, rfl⟩))
          · refine Lib.hid ((HM2.out.below ((Below.refl _ _).alloc (Nat.le_refl _) _)).app (by rw [HLE.out]; exact hown3) hg3 hat3 (HR1.out.below (((Below.refl _ _).alloc (Nat.le_refl _) _).alloc (by simp) _)) (fun _ x hA e => ?_))
            have h1 := HA1.out x hA
            have h2 := HAP.out x.block e
            omega
        case measure => have := HLT.out; simp [intOf]; omega
    · obtain rfl : k = 192 := by omega
      rw [show ((192 : Nat) : Int) = 192 from rfl]
      obtain ⟨g, c0, rest, hv, hcc, hcm, HM2⟩ := HM.out.row (by rw [HLE.out]; decide)
      subst hv
      have HM3 := Lib.hid HM2
      clear HM2
      have hHle := hadN_le (hasE Ls base) 192
      rw [HHH.out] at hHle ⊢
      rw [HLE.out] at hcc ⊢
      have hHi : (H : Int) ≤ 192 := by omega
      have hci : (192 : Int) ≤ (c0 : Int) := by omega
      have hHc : (H : Int) ≤ (c0 : Int) := by omega
      have hcM : (c0 : Int) ≤ 9223372036854775807 := by unfold maxLen at hcm; omega
      have HCM := Lib.hid (And.intro hcc hcm)
      clear hlt hk HM hcc hcm
      go_wp2_with (fail)
      obtain ⟨wo, rfl⟩ : ∃ wo : World, wo = wr := ⟨_, rfl⟩
      go_loopw [15, 50] (fun _ kv wr => ∃ (k : Nat) (es : List En), k ≤ H ∧ kv = .int .i64 (k : Int) ∧ Hid (es.length = 192) ∧ Hid (∀ j e, es[j]? = some e → Core (srcE Ls base j) e) ∧ Hid (∀ j, j < k → ∃ A' c', es[j]? = some ((goes base term m Ls H j).put A' c')) ∧ Hid (M2 w wr g es rest)) (fun _ kv _ => H - (intOf kv).toNat)
      case atStart => exact ⟨0, es, Nat.zero_le _, rfl, HLE, HC, Lib.hid (fun j h => absurd h (Nat.not_lt_zero _)), HM3⟩
      case round =>
        clear HM3 HLE HC
        clear es
        obtain ⟨k, es, hk, rfl, HLE, HC, HG, HM2⟩ := hrel
        by_cases hlt : k < H
        · obtain ⟨e0, he⟩ : ∃ e0, es[k]? = some e0 := ⟨_, List.getElem?_eq_getElem (by have := HLE.out; omega)⟩
          have hki : (k : Int) < (H : Int) := by omega
          have v1 : IntKind.u64.wrap ((base : Int) + 1) = (base : Int) + 1 := u64w _ (by omega) (by omega)
          have v4 : IntKind.u64.wrap (H : Int) = (H : Int) := u64w _ (by omega) (by omega)
          have v5 : IntKind.u64.wrap ((base : Int) + 1 + (H : Int)) = ((base + 1 + H : Nat) : Int) := by rw [u64w _ (by omega) (by omega)]; omega
          have hle10 : ∀ f v, f < 10 → e0.cells[f]? = some v → (ens es ++ rest)[k * 10 + f]? = some v := fun f v hf hv => by
            have := ens_get es k e0 he f v hv
            rw [List.getElem?_append_left (List.getElem?_eq_some_iff.1 this).1]
            exact this
          have c1 : wr.cell? ⟨g, k * 10 + 1, none⟩ = some (.int .u64 (e0.tm : Int)) := by rw [cell_of_row wr g _ _ _ _ HM2.out.row, List.getElem?_toArray]; exact hle10 1 _ (by decide) rfl
          have c2 : wr.cell? ⟨g, k * 10 + 2, none⟩ = some (.int .u64 (e0.st : Int)) := by rw [cell_of_row wr g _ _ _ _ HM2.out.row, List.getElem?_toArray]; exact hle10 2 _ (by decide) rfl
          have f1 := frozen_of_row wr g (k * 10 + 1) _ _ HM2.out.row
          have f2 := frozen_of_row wr g (k * 10 + 2) _ _ HM2.out.row
          have hre := HM2.out.reads e0 (List.mem_of_getElem? he)
          have hap := HM2.out.apart e0 (List.mem_of_getElem? he)
          have HS2 := HM2.out.set2 he (tm := term) (st := base + 1 + H) HT.out (by omega)
          rw [show ((base + 1 + H : Nat) : Int) = (base : Int) + 1 + (H : Int) by omega] at HS2
          have HM4 := Lib.hid HS2
          have HE := Lib.hid he
          have HRE := Lib.hid hre
          have HLT := Lib.hid hlt
          have HKL := Lib.hid (show k < es.length by have := HLE.out; omega)
          have HB5 := Lib.hid (show base + 1 + H < 18446744073709551616 by omega)
          clear he hle10 hlt hre hap HS2
          go_wp2_with (first
            | (go_at_call 40
               refine (make_any (HM4.out.ents (Nat.le_of_lt (by rw [List.length_set]; exact HKL.out)) (Nat.le_trans (Nat.le_of_lt HLT.out) (by omega)) HCM.out.2) (by omega) m).mono ?_
               rintro e w4 ⟨v4, rfl, hown4, hb4⟩
               obtain ⟨A4, c4, rfl⟩ := ownsRow_form hown4
               have HM5 := Lib.hid (HM4.out.below hb4)
               have HO4 := Lib.hid hown4
               have c9 := cell_of_row w4 g (k * 10 + 9) _ _ _ HM5.out.row
               have f9 := frozen_of_row w4 g (k * 10 + 9) _ _ HM5.out.row
               rw [List.getElem?_toArray, List.getElem?_append_left (by rw [ens_len, List.length_set]; have := HKL.out; omega), ens_get _ k _ (by rw [List.getElem?_set_self HKL.out]) 9 _ rfl] at c9
               clear hb4 hown4)
            | fail)
          go_roundw
          case rel =>
            have hmd : (es.set k (e0.led term (base + 1 + H))).take k = es.take k := by rw [List.take_set_of_le (Nat.le_refl _)]
            rw [hmd] at HO4
            have hfin := made_goes HE.out HC.out HKL.out (term := term) (H := H) (m := m) A4 c4
            have hset := HM5.out.set (k := k) (f := 9) (e := e0.led term (base + 1 + H)) (e' := (goes base term m Ls H k).put A4 c4) (v := .slice A4 (mk m k) c4) (by rw [List.getElem?_set_self HKL.out]) (by decide) (by rw [hfin]; rfl)
              (by rw [hfin]; exact made_reads (e := e0.led term (base + 1 + H)) (HM5.out.reads (e0.led term (base + 1 + H)) (List.mem_of_getElem? (by rw [List.getElem?_set_self HKL.out]))) HT.out HB5.out HO4.out (fun e he => (HM2.out.reads e he).look) (by have := HKL.out; omega))
              (fun _ x hA hx => by
                have h1 := (HO4.out.lt x.block (by rw [show A4 = some x from hA]; rfl)).1
                have h2 := (Array.getElem?_eq_some_iff.1 HM4.out.row).1
                omega)
            rw [List.set_set] at hset
            refine ⟨k + 1, es.set k ((goes base term m Ls H k).put A4 c4), HLT.out, by go_num, Lib.hid (by rw [List.length_set]; exact HLE.out), Lib.hid (fun j e hj => ?_), Lib.hid (fun j hj => ?_), Lib.hid hset⟩
            · by_cases hjk : k = j
              · subst hjk
                rw [List.getElem?_set_self HKL.out] at hj
                cases hj
                exact ⟨(srcE_ix Ls base k).symm, rfl, rfl, rfl, rfl, rfl, rfl⟩
              · rw [List.getElem?_set_ne hjk] at hj
                exact HC.out j e hj
            · by_cases hjk : k = j
              · subst hjk
                exact ⟨A4, c4, by rw [List.getElem?_set_self HKL.out]⟩
              · obtain ⟨A', c', h⟩ := HG.out j (by omega)
                exact ⟨A', c', by rw [List.getElem?_set_ne hjk]; exact h⟩
          case measure => have := HLT.out; simp [intOf]; omega
        · obtain rfl : k = H := by omega
          go_wp2
          go_ret
          exact ⟨_, _, _, rfl, HM2.out.ents (by have := HLE.out; omega) (by have := HCM.out; omega) HCM.out.2, fun j hj => by
            obtain ⟨A', c', h⟩ := HG.out j hj
            exact ⟨A', c', by rw [List.getElem?_take, if_pos hj]; exact h⟩, HM2.out.bel⟩
end Go.Proofs.Ytapfggpeodpflaa

namespace Go.Proofs.Ytapfggpeodpflaa
open Go.RowKit
set_option maxRecDepth 20000

theorem wp_app2 {P : Program} {w : World} {K : Act → World → Prop} {o : Oper} {a : Act} {Q : Exit → Act → World → Prop} (s x : Operand) (t tx : TypeId)
    (ho : o.op = .call { callee := .builtin .append, args := #[s, x], argTypes := #[t, tx] })
    {base m n sz bt : Nat} {e : TypeId} {z v y : Value} {xs news : List Value} (hT : Elem P t e z sz bt) (hs : a.eval s = v) (hx : a.eval x = y) (hown : w.ownsRow base e sz v n xs) (hsrc : Src P sz tx y m news w)
    (h63 : n + m ≤ maxLen) (hbytes : (n + m) * bt ≤ 140737488355328) (hbase : base ≤ w.heap.size)
    (h : ∀ v' w', w'.ownsRow base e sz v' (n + m) (xs ++ news) → w.grownBy w' v.ownBlock → (v'.ownBlock = v.ownBlock ∨ v'.ownBlock = some w.heap.size) → K (a.put o.dst v') w') : o.wp P a w K Q := by
  obtain ⟨v', w', hr, h1, h2, h3⟩ := run_app (ty := o.type) hT hown hsrc h63 hbytes hbase
  unfold Oper.wp execOp
  simp only [ho, resolve, invoke, builtin, Sem.run_bind, Sem.run_pure, Result.andThen_ok, List.map_toArray, List.map_cons, List.map_nil, hs, hx, hr]
  exact h v' w' h1 h2 h3
theorem M1.drew {w wr : World} {v : Value} {es : List En} (h : M1 w wr v es) : M1 w wr.drew v es :=
  h.below ⟨rfl, rfl, rfl, Nat.le_refl _, fun _ _ => rfl⟩
theorem M1.ents {w wr : World} {A : Option Addr} {n c : Nat} {es : List En} (h : M1 w wr (.slice A n c) es) (hn : es.length = n) : Ents wr A n c es :=
  ⟨ownsRow_rd (own_k hn h.own), hn, h.reads⟩
theorem row_farm {w w' : World} {row : Option Nat} {b : Nat} {o : Obj} (h : w.heap[b]? = some o) (hg : w.grownBy w' row) (hr : some b ≠ row) : w'.heap[b]? = some o :=
  (hg.block b (Array.getElem?_eq_some_iff.1 h).1 hr).trans h
theorem goes_core {Ls : List Li} {base term H j : Nat} {m : Int} {A : Option Addr} {c : Nat} : Core (srcE Ls base j) ((goes base term m Ls H j).put A c) := ⟨(srcE_ix Ls base j).symm, rfl, rfl, rfl, rfl, rfl, rfl⟩
theorem made_list {Ls : List Li} {base term H k : Nat} {m : Int} {es : List En} (hl : es.length = k) (hg : ∀ (j : Nat), j < k → ∃ A' c', es[j]? = some ((goes base term m Ls H j).put A' c')) : mades es (mk m k) = mades ((List.range k).map (srcE Ls base)) (mk m k) := by
  have h := mades_core (f := srcE Ls base) (es := es) (j := k) (by omega) (fun i e he => by
    obtain ⟨A', c', h⟩ := hg i (by have := (List.getElem?_eq_some_iff.1 he).1; omega)
    rw [he] at h
    cases h
    exact goes_core) (mk m k)
  rwa [List.take_of_length_le (by omega)] at h
theorem src_reads {Ls : List Li} {base j : Nat} {w : World} (h : ∀ e ∈ flat Ls, e.Reads w) (hb : base + 1 + j < 18446744073709551616) : (srcE Ls base j).Reads w := by
  unfold srcE
  cases hq : bst Ls (base + 1 + j) with
  | none => exact noop_reads (X := base + 1 + j) (term := 0) hb (by decide)
  | some e => exact h e (bestOf_mem hq)
theorem goes_reads {Ls : List Li} {base term H k B : Nat} {m : Int} {A : Option Addr} {c : Nat} {w : World} (hs : (srcE Ls base k).Reads w) (ht : term < 18446744073709551616) (hb : base + 1 + k + H < 18446744073709551616)
    (ho : w.ownsRow B 78 4 (.slice A (mk m k) c) (mk m k) (lks (mades ((List.range k).map (srcE Ls base)) (mk m k)))) (hl : ∀ j, j < k → (srcE Ls base j).look.Ok) : ((goes base term m Ls H k).put A c).Reads w := by
  have hm : mk m k ≤ k := by unfold mk; omega
  refine ⟨show base + 1 + k < _ by omega, ht, show base + 1 + H < _ by omega, hs.kd, hs.look, hs.da, ownsRow_rd ho, mades_len _ _ (by simp; omega), fun l hm => ?_⟩
  have hm2 : l ∈ mades ((List.range k).map (srcE Ls base)) (mk m k) := hm
  unfold mades at hm2
  obtain ⟨d, hd, rfl⟩ := List.mem_map.1 hm2
  obtain ⟨j, hj, rfl⟩ := List.mem_map.1 (List.mem_reverse.1 (List.mem_of_mem_take hd))
  exact hl j (List.mem_range.1 hj)
theorem goes_snoc {Ls : List Li} {base term H k : Nat} {m : Int} {es : List En} {A : Option Addr} {c : Nat} (hl : es.length = k) (hg : ∀ (j : Nat), j < k → ∃ A' c', es[j]? = some ((goes base term m Ls H j).put A' c')) : ∀ (j : Nat), j < k + 1 → ∃ A' c', (es ++ [(goes base term m Ls H k).put A c])[j]? = some ((goes base term m Ls H j).put A' c') := by
  intro j hj
  rcases Nat.lt_or_ge j k with h | h
  · obtain ⟨A', c', h2⟩ := hg j h
    exact ⟨A', c', by rw [List.getElem?_append_left (by omega)]; exact h2⟩
  · obtain rfl : j = k := by omega
    exact ⟨A, c, by rw [List.getElem?_append_right (by omega), show j - es.length = 0 by omega]; rfl⟩
theorem goes_cells {Ls : List Li} {base term H k : Nat} {m : Int} {A : Option Addr} {c : Nat} {e : En} {KD CL RQ FR CT DA : Value} (hs : srcE Ls base k = e) (hk : (Value.int .i64 e.kd) = KD := by rfl) (hcl : (Value.int .u64 (e.cl : Int)) = CL := by rfl) (hrq : (Value.int .u64 (e.rq : Int)) = RQ := by rfl) (hfr : (Value.int .u32 (e.fr : Int)) = FR := by rfl) (hct : (Value.int .u32 (e.ct : Int)) = CT := by rfl) (hda : Value.string (str e.da) = DA := by rfl) :
    ens [(goes base term m Ls H k).put A c] = (#[.int .u64 ((base : Int) + 1 + (k : Int)), .int .u64 (term : Int), .int .u64 ((base : Int) + (H : Int) + 1), KD, CL, RQ, FR, CT, DA, .slice A (mk m k) c] : Array Value).toList := by
  subst hs hk hcl hrq hfr hct hda
  have e1 : ((base + 1 + k : Nat) : Int) = (base : Int) + 1 + (k : Int) := by omega
  have e2 : ((base + 1 + H : Nat) : Int) = (base : Int) + (H : Int) + 1 := by omega
  rw [← e1, ← e2]
  rfl
theorem put_has {Ls : List Li} {base k : Nat} {o : Option En} (h : bst Ls (base + 1 + k) = o) : srcE Ls base k = o.getD ⟨base + 1 + k, 0, 0, 2, 0, 0, 0, 0, [], none, 0, 0, []⟩ := by unfold srcE; rw [h]
set_option maxHeartbeats 8000000 in
theorem rmerge_any {w : World} {A : Option Addr} {n c : Nat} {Ls : List Li} (h : Slc Li.lay w A n c Ls) (hf : (flat Ls).length ≤ 1000) (base term : Nat) (hb : base ≤ 4611686018427387904) (ht : term < 18446744073709551616) (m : Int) :
    Calls Try.prog 16 #[.int .u64 (base : Int), .int .u64 (term : Int), .int .i64 m, .slice A n c] w (TMerge w base term m Ls) := by
  have HLA := Lib.hid (rlast_any h hf base hb)
  have HBE := Lib.hid (fun W (hb' : Below w.heap.size w W) x (hx : x < 18446744073709551616) => rbest_any (h.below hb') hf x hx)
  have HRD := Lib.hid (flat_reads h)
  have HT := Lib.hid ht
  have hbi : (base : Int) ≤ 4611686018427387904 := by omega
  have hbi0 : (0 : Int) ≤ (base : Int) := by omega
  have hH192 := hadN_le (hasE Ls base) 192
  obtain ⟨H, hH⟩ : ∃ H, hadN (hasE Ls base) 192 = H := ⟨_, rfl⟩
  unfold TMerge
  rw [hH] at HLA hH192 ⊢
  have hHi : (H : Int) ≤ 192 := by omega
  have hEnd : ((base + H : Nat) : Int) = (base : Int) + (H : Int) := by omega
  rw [hEnd] at HLA
  clear h hf ht hb hH hEnd
  have v1 : IntKind.u64.wrap ((base : Int) + 1) = (base : Int) + 1 := u64w _ (by omega) (by omega)
  go_enter Try.func16, Try.ntmps16
  go_wp2_with (first
    | (go_at_call 29; refine HLA.out.mono ?_; rintro e w1 ⟨rfl, hb1⟩; have HB1 := Lib.hid hb1; clear hb1)
    | fail)
  go_loopw [9, 11, 13] (fun ov iv _ wr => ∃ (k : Nat) (es : List En), k ≤ H ∧ iv = .int .u64 ((base : Int) + 1 + (k : Int)) ∧ Hid (es.length = k) ∧ Hid (∀ (j : Nat), j < k → ∃ A' c', es[j]? = some ((goes base term m Ls H j).put A' c')) ∧ Hid (M1 w wr ov es)) (fun _ iv _ _ => base + 1 + H - (intOf iv).toNat)
  case atStart => exact ⟨0, [], Nat.zero_le _, by show _ = Value.int .u64 ((base : Int) + 1 + ((0 : Nat) : Int)); simp, Lib.hid rfl, Lib.hid (fun j h => absurd h (Nat.not_lt_zero _)), Lib.hid ⟨HB1.out, World.ownsRow_nil w1 _ _ _, fun _ h => (by cases h), fun _ h => (by cases h)⟩⟩
  case round =>
    obtain ⟨k, es, hk, rfl, HLE, HG, HM⟩ := hrel
    by_cases hlt : k < H
    · have hki : (base : Int) + 1 + (k : Int) ≤ (base : Int) + (H : Int) := by omega
      have v2 : IntKind.u64.wrap ((base : Int) + (H : Int) + 1) = (base : Int) + (H : Int) + 1 := u64w _ (by omega) (by omega)
      have v3 : IntKind.u64.wrap ((base : Int) + 1 + (k : Int) + 1) = (base : Int) + 1 + (k : Int) + 1 := u64w _ (by omega) (by omega)
      have hBE := HBE.out wr HM.out.bel (base + 1 + k) (by omega)
      rw [show ((base + 1 + k : Nat) : Int) = (base : Int) + 1 + (k : Int) by omega] at hBE
      have HLT := Lib.hid hlt
      obtain ⟨A0, c0, hv0⟩ := ownsRow_form HM.out.own
      subst hv0
      rw [HLE.out] at HM ⊢
      have hk192 : (k : Int) ≤ 192 := by omega
      clear hlt
      cases hbq : bst Ls (base + 1 + k) with
      | none =>
        rw [hbq] at hBE
        have HS := Lib.hid (put_has hbq)
        unfold curE Ez enNil En.cells at hBE
        dsimp only [Option.getD_none, Option.isSome_none] at hBE
        have HBQ := Lib.hid hBE
        clear hBE hbq
        go_wp2_with (first
          | (go_at_call 30; refine HBQ.out.mono ?_; rintro e w2 ⟨rfl, hb2⟩
             have HM2 := Lib.hid (HM.out.below hb2)
             clear hb2)
          | fail)
        obtain ⟨W9, hW9, _, r12, hb9⟩ := row1 w2 #[.int .u64 0, .int .u64 0, .int .u64 0, .int .i64 2, .int .u64 0, .int .u64 0, .int .u32 0, .int .u32 0, .string ⟨#[]⟩, .slice none 0 0] 55
        rw [← hW9]
        have hp12 := fun q (e : (Value.slice A0 k c0).ownBlock = some q) => (HM2.out.own.lt q e).2
        have hm9 := (HM2.out.below hb9).drew
        obtain ⟨p12, hq12⟩ : ∃ p12, w2.heap.size = p12 := ⟨_, rfl⟩
        rw [hq12] at r12 hp12 ⊢
        have HP12 := Lib.hid hp12
        have HM9 := Lib.hid hm9
        have R12 := Lib.hid r12
        clear hW9 hb9 hq12 hp12 hm9
        refine wp_segs [([0, 1, 2, 3, 4, 5, 6, 7, 8, 9, 10, 11, 12, 13, 14, 15, 16], 17), ([18], 19), ([], 20)] [21] (fun y => y.heap[p12]? = some (.cells #[.int .u64 0, .int .u64 0, .int .u64 0, .int .i64 2, .int .u64 0, .int .u64 0, .int .u32 0, .int .u32 0, .string ⟨#[]⟩, .slice none 0 0] 55 (0, 0))) (by kernel_rfl) (by kernel_rfl) (fun d _ _ _ _ h => by cases d <;> exact h) r12 ?_
        clear r12
        intro q hq
        have d0 := fun z => cell_of_row (q z) p12 0 _ _ _ (hq z)
        have d1 := fun z => cell_of_row (q z) p12 1 _ _ _ (hq z)
        have d2 := fun z => cell_of_row (q z) p12 2 _ _ _ (hq z)
        have d3 := fun z => cell_of_row (q z) p12 3 _ _ _ (hq z)
        have d4 := fun z => cell_of_row (q z) p12 4 _ _ _ (hq z)
        have d5 := fun z => cell_of_row (q z) p12 5 _ _ _ (hq z)
        have d6 := fun z => cell_of_row (q z) p12 6 _ _ _ (hq z)
        have d7 := fun z => cell_of_row (q z) p12 7 _ _ _ (hq z)
        have d8 := fun z => cell_of_row (q z) p12 8 _ _ _ (hq z)
        have d9 := fun z => cell_of_row (q z) p12 9 _ _ _ (hq z)
        simp only [pickI, Option.toList_some, List.cons_append, List.nil_append, List.getElem?_toArray, List.getElem?_cons_succ, List.getElem?_cons_zero]
        try go_frame
        go_big_quiet_step (fail)
        go_big_quiet_step (fail)
        go_big_quiet_step (fail)
        go_big_quiet_step (fail)
        go_big_quiet_step (fail)
        go_big_quiet_step (fail)
        go_big_quiet_step (fail)
        go_big_quiet_step (fail)
        go_big_quiet_step (fail)
        go_big_quiet_step (fail)
        go_big_quiet_step (fail)
        go_big_quiet_step (fail)
        go_big_quiet_step (fail)
        go_big_quiet_step (fail)
        go_big_quiet_step (fail)
        go_big_quiet_step (fail)
        go_big_quiet_step (fail)
        refine wpQuiet_nil ?_
        clear hq q d0 d1 d2 d3 d4 d5 d6 d7 d8 d9
        refine seg_op (by simp only [List.getElem?_toArray, List.getElem?_cons_succ, List.getElem?_cons_zero]; rfl) fun K hK => ?_
        go_simp
        refine (rmake_any (w := W9.drew) (HM9.out.ents HLE.out) (by omega) m).mono ?_
        rintro e w3 ⟨v3, rfl, hown3, hb3⟩
        obtain ⟨A3, c3, rfl⟩ := ownsRow_form hown3
        have hS3 : w3.heap[p12]? = some _ := row_below (w := W9.drew) R12.out hb3
        have HM3 := Lib.hid (HM9.out.below hb3)
        have hlo := fun q (e : (Value.slice A3 (mk m k) c3).ownBlock = some q) => (hown3.lt q e).1
        have HLO := Lib.hid (fun q (e : (Value.slice A3 (mk m k) c3).ownBlock = some q) => Nat.lt_of_lt_of_le (Array.getElem?_eq_some_iff.1 R12.out).1 (hlo q e))
        have hmd : mades es (mk m k) = mades ((List.range k).map (srcE Ls base)) (mk m k) := made_list HLE.out HG.out
        rw [hmd] at hown3
        have HO3 := Lib.hid hown3
        clear hlo hmd hb3 hown3
        refine hK.out _ _ (seg_keep hS3 ?_)
        clear hK K
        intro q hq
        simp only [pickI, Option.toList_some, List.cons_append, List.nil_append, List.getElem?_toArray, List.getElem?_cons_succ, List.getElem?_cons_zero]
        try go_frame
        go_big_quiet_step (fail)
        refine wpQuiet_nil ?_
        clear hq q
        refine seg_op (by simp only [List.getElem?_toArray, List.getElem?_cons_succ, List.getElem?_cons_zero]; rfl) fun K hK => ?_
        go_simp
        have hb4 : Below w3.heap.size w3 (w3.alloc (.cells #[.int .u64 ((base : Int) + 1 + (k : Int)), .int .u64 (term : Int), .int .u64 ((base : Int) + (H : Int) + 1), .int .i64 2, .int .u64 0, .int .u64 0, .int .u32 0, .int .u32 0, .string ⟨#[]⟩, .slice A3 (mk m k) c3] 55)) := (Below.refl _ _).alloc (Nat.le_refl _) _
        have hS4 := row_below hS3 hb4
        have HM4 := Lib.hid (HM3.out.below hb4)
        have HO4 := Lib.hid (owns_below HO3.out hb4)
        refine hK.out _ _ (seg_keep hS4 ?_)
        clear hK K
        intro q hq
        refine wpQuiet_nil ?_
        clear hq q
        refine seg_op (by simp only [List.getElem?_toArray, List.getElem?_cons_succ, List.getElem?_cons_zero]; rfl) fun K hK => ?_
        rw [if_pos (by rfl)]
        refine wp_app2 (m := 1) (v := .slice A0 k c0) (y := .slice (some ⟨w3.heap.size, 0, none⟩) 1 1) (.tmp 33) (.tmp 52) _ _ rfl E_en (by rfl) (by rfl) (own_k HLE.out HM4.out.own) (Src.lit' rfl (n := 1) (sz := 10) Try.underlying23 #[.int .u64 ((base : Int) + 1 + (k : Int)), .int .u64 (term : Int), .int .u64 ((base : Int) + (H : Int) + 1), .int .i64 2, .int .u64 0, .int .u64 0, .int .u32 0, .int .u32 0, .string ⟨#[]⟩, .slice A3 (mk m k) c3] rfl (by simp [Value.oneCell'])) (by unfold maxLen; omega) (by omega) (Nat.le_trans HM3.out.bel.size hb4.size) ?_
        intro v4 w4 hown4 hg4 hat4
        have hS5 := row_farm hS4 hg4 (fun e => by have := HP12.out p12 e.symm; omega)
        have hens : ens [(goes base term m Ls H k).put A3 c3] = (#[.int .u64 ((base : Int) + 1 + (k : Int)), .int .u64 (term : Int), .int .u64 ((base : Int) + (H : Int) + 1), .int .i64 2, .int .u64 0, .int .u64 0, .int .u32 0, .int .u32 0, .string ⟨#[]⟩, .slice A3 (mk m k) c3] : Array Value).toList := goes_cells HS.out
        rw [← hens] at hown4
        have HM5 := Lib.hid (HM4.out.app (v' := v4) (e := (goes base term m Ls H k).put A3 c3) (by rw [HLE.out]; exact hown4) hg4 hat4 (goes_reads (src_reads (fun e he => (HRD.out e he).below HM4.out.bel) (by omega)) HT.out (by omega) HO4.out (fun j hj => (src_reads (fun e he => (HRD.out e he).below HM4.out.bel) (by omega)).look)) (fun _ x hA e => by
          have h1 := HP12.out x.block e
          have h2 := HLO.out x.block (by rw [show A3 = some x from hA]; rfl)
          omega))
        refine hK.out _ _ (seg_keep hS5 ?_)
        clear hK K hS3 hS4 hS5 hb4 hown4 hg4 hat4 hens
        intro q hq
        simp only [pickI, Option.toList_some, List.cons_append, List.nil_append, List.getElem?_toArray, List.getElem?_cons_succ, List.getElem?_cons_zero]
        try go_frame
        go_big_quiet_step (fail)
        refine wpQuiet_nil ?_
        clear hq q
        go_wp2
        go_roundw
        case rel => exact ⟨k + 1, es ++ [(goes base term m Ls H k).put A3 c3], HLT.out, by go_num, Lib.hid (by rw [List.length_append, HLE.out]; rfl), Lib.hid (goes_snoc HLE.out HG.out), HM5⟩
        case measure => have := HLT.out; simp [intOf]; omega
      | some e0 =>
        rw [hbq] at hBE
        have HS := Lib.hid (put_has hbq)
        have hr0 := HRD.out e0 (bestOf_mem hbq)
        have HR0 := Lib.hid hr0
        unfold curE at hBE
        dsimp only [Option.getD_some, Option.isSome_some] at hBE
        obtain ⟨ix, tm, st, kd, cl, rq, fr, ct, da, A1, bn, bc, ls⟩ := e0
        unfold En.cells at hBE
        dsimp only at hBE
        have HBQ := Lib.hid hBE
        clear hBE hbq hr0
        go_wp2_with (first
          | (go_at_call 30; refine HBQ.out.mono ?_; rintro e w2 ⟨rfl, hb2⟩
             have HM2 := Lib.hid (HM.out.below hb2)
             clear hb2)
          | fail)
        obtain ⟨W9, hW9, _, r12, hb9⟩ := row1 w2 #[.int .u64 (ix : Int), .int .u64 (tm : Int), .int .u64 (st : Int), .int .i64 kd, .int .u64 (cl : Int), .int .u64 (rq : Int), .int .u32 (fr : Int), .int .u32 (ct : Int), .string (str da), .slice A1 bn bc] 55
        rw [← hW9]
        have hp12 := fun q (e : (Value.slice A0 k c0).ownBlock = some q) => (HM2.out.own.lt q e).2
        have hm9 := (HM2.out.below hb9).drew
        obtain ⟨p12, hq12⟩ : ∃ p12, w2.heap.size = p12 := ⟨_, rfl⟩
        rw [hq12] at r12 hp12 ⊢
        have HP12 := Lib.hid hp12
        have HM9 := Lib.hid hm9
        have R12 := Lib.hid r12
        clear hW9 hb9 hq12 hp12 hm9
        refine wp_segs [([0, 1, 2, 3, 4, 5, 6, 7, 8, 9, 10, 11, 12, 13, 14, 15, 16], 17), ([18], 19), ([], 20)] [21] (fun y => y.heap[p12]? = some (.cells #[.int .u64 (ix : Int), .int .u64 (tm : Int), .int .u64 (st : Int), .int .i64 kd, .int .u64 (cl : Int), .int .u64 (rq : Int), .int .u32 (fr : Int), .int .u32 (ct : Int), .string (str da), .slice A1 bn bc] 55 (0, 0))) (by kernel_rfl) (by kernel_rfl) (fun d _ _ _ _ h => by cases d <;> exact h) r12 ?_
        clear r12
        intro q hq
        have d0 := fun z => cell_of_row (q z) p12 0 _ _ _ (hq z)
        have d1 := fun z => cell_of_row (q z) p12 1 _ _ _ (hq z)
        have d2 := fun z => cell_of_row (q z) p12 2 _ _ _ (hq z)
        have d3 := fun z => cell_of_row (q z) p12 3 _ _ _ (hq z)
        have d4 := fun z => cell_of_row (q z) p12 4 _ _ _ (hq z)
        have d5 := fun z => cell_of_row (q z) p12 5 _ _ _ (hq z)
        have d6 := fun z => cell_of_row (q z) p12 6 _ _ _ (hq z)
        have d7 := fun z => cell_of_row (q z) p12 7 _ _ _ (hq z)
        have d8 := fun z => cell_of_row (q z) p12 8 _ _ _ (hq z)
        have d9 := fun z => cell_of_row (q z) p12 9 _ _ _ (hq z)
        simp only [pickI, Option.toList_some, List.cons_append, List.nil_append, List.getElem?_toArray, List.getElem?_cons_succ, List.getElem?_cons_zero]
        try go_frame
        go_big_quiet_step (fail)
        go_big_quiet_step (fail)
        go_big_quiet_step (fail)
        go_big_quiet_step (fail)
        go_big_quiet_step (fail)
        go_big_quiet_step (fail)
        go_big_quiet_step (fail)
        go_big_quiet_step (fail)
        go_big_quiet_step (fail)
        go_big_quiet_step (fail)
        go_big_quiet_step (fail)
        go_big_quiet_step (fail)
        go_big_quiet_step (fail)
        go_big_quiet_step (fail)
        go_big_quiet_step (fail)
        go_big_quiet_step (fail)
        go_big_quiet_step (fail)
        refine wpQuiet_nil ?_
        clear hq q d0 d1 d2 d3 d4 d5 d6 d7 d8 d9
        refine seg_op (by simp only [List.getElem?_toArray, List.getElem?_cons_succ, List.getElem?_cons_zero]; rfl) fun K hK => ?_
        go_simp
        refine (rmake_any (w := W9.drew) (HM9.out.ents HLE.out) (by omega) m).mono ?_
        rintro e w3 ⟨v3, rfl, hown3, hb3⟩
        obtain ⟨A3, c3, rfl⟩ := ownsRow_form hown3
        have hS3 : w3.heap[p12]? = some _ := row_below (w := W9.drew) R12.out hb3
        have HM3 := Lib.hid (HM9.out.below hb3)
        have hlo := fun q (e : (Value.slice A3 (mk m k) c3).ownBlock = some q) => (hown3.lt q e).1
        have HLO := Lib.hid (fun q (e : (Value.slice A3 (mk m k) c3).ownBlock = some q) => Nat.lt_of_lt_of_le (Array.getElem?_eq_some_iff.1 R12.out).1 (hlo q e))
        have hmd : mades es (mk m k) = mades ((List.range k).map (srcE Ls base)) (mk m k) := made_list HLE.out HG.out
        rw [hmd] at hown3
        have HO3 := Lib.hid hown3
        clear hlo hmd hb3 hown3
        refine hK.out _ _ (seg_keep hS3 ?_)
        clear hK K
        intro q hq
        simp only [pickI, Option.toList_some, List.cons_append, List.nil_append, List.getElem?_toArray, List.getElem?_cons_succ, List.getElem?_cons_zero]
        try go_frame
        go_big_quiet_step (fail)
        refine wpQuiet_nil ?_
        clear hq q
        refine seg_op (by simp only [List.getElem?_toArray, List.getElem?_cons_succ, List.getElem?_cons_zero]; rfl) fun K hK => ?_
        go_simp
        have hb4 : Below w3.heap.size w3 (w3.alloc (.cells #[.int .u64 ((base : Int) + 1 + (k : Int)), .int .u64 (term : Int), .int .u64 ((base : Int) + (H : Int) + 1), .int .i64 kd, .int .u64 (cl : Int), .int .u64 (rq : Int), .int .u32 (fr : Int), .int .u32 (ct : Int), .string (str da), .slice A3 (mk m k) c3] 55)) := (Below.refl _ _).alloc (Nat.le_refl _) _
        have hS4 := row_below hS3 hb4
        have HM4 := Lib.hid (HM3.out.below hb4)
        have HO4 := Lib.hid (owns_below HO3.out hb4)
        refine hK.out _ _ (seg_keep hS4 ?_)
        clear hK K
        intro q hq
        refine wpQuiet_nil ?_
        clear hq q
        refine seg_op (by simp only [List.getElem?_toArray, List.getElem?_cons_succ, List.getElem?_cons_zero]; rfl) fun K hK => ?_
        rw [if_pos (by rfl)]
        refine wp_app2 (m := 1) (v := .slice A0 k c0) (y := .slice (some ⟨w3.heap.size, 0, none⟩) 1 1) (.tmp 33) (.tmp 52) _ _ rfl E_en (by rfl) (by rfl) (own_k HLE.out HM4.out.own) (Src.lit' rfl (n := 1) (sz := 10) Try.underlying23 #[.int .u64 ((base : Int) + 1 + (k : Int)), .int .u64 (term : Int), .int .u64 ((base : Int) + (H : Int) + 1), .int .i64 kd, .int .u64 (cl : Int), .int .u64 (rq : Int), .int .u32 (fr : Int), .int .u32 (ct : Int), .string (str da), .slice A3 (mk m k) c3] rfl (by simp [Value.oneCell'])) (by unfold maxLen; omega) (by omega) (Nat.le_trans HM3.out.bel.size hb4.size) ?_
        intro v4 w4 hown4 hg4 hat4
        have hS5 := row_farm hS4 hg4 (fun e => by have := HP12.out p12 e.symm; omega)
        have hens : ens [(goes base term m Ls H k).put A3 c3] = (#[.int .u64 ((base : Int) + 1 + (k : Int)), .int .u64 (term : Int), .int .u64 ((base : Int) + (H : Int) + 1), .int .i64 kd, .int .u64 (cl : Int), .int .u64 (rq : Int), .int .u32 (fr : Int), .int .u32 (ct : Int), .string (str da), .slice A3 (mk m k) c3] : Array Value).toList := goes_cells HS.out
        rw [← hens] at hown4
        have HM5 := Lib.hid (HM4.out.app (v' := v4) (e := (goes base term m Ls H k).put A3 c3) (by rw [HLE.out]; exact hown4) hg4 hat4 (goes_reads (src_reads (fun e he => (HRD.out e he).below HM4.out.bel) (by omega)) HT.out (by omega) HO4.out (fun j hj => (src_reads (fun e he => (HRD.out e he).below HM4.out.bel) (by omega)).look)) (fun _ x hA e => by
          have h1 := HP12.out x.block e
          have h2 := HLO.out x.block (by rw [show A3 = some x from hA]; rfl)
          omega))
        refine hK.out _ _ (seg_keep hS5 ?_)
        clear hK K hS3 hS4 hS5 hb4 hown4 hg4 hat4 hens
        intro q hq
        simp only [pickI, Option.toList_some, List.cons_append, List.nil_append, List.getElem?_toArray, List.getElem?_cons_succ, List.getElem?_cons_zero]
        try go_frame
        go_big_quiet_step (fail)
        refine wpQuiet_nil ?_
        clear hq q
        go_wp2
        go_roundw
        case rel => exact ⟨k + 1, es ++ [(goes base term m Ls H k).put A3 c3], HLT.out, by go_num, Lib.hid (by rw [List.length_append, HLE.out]; rfl), Lib.hid (goes_snoc HLE.out HG.out), HM5⟩
        case measure => have := HLT.out; simp [intOf]; omega
    · obtain rfl : k = H := by omega
      obtain ⟨A0, c0, hv0⟩ := ownsRow_form HM.out.own
      subst hv0
      rw [HLE.out] at HM ⊢
      have v2 : IntKind.u64.wrap ((base : Int) + 1 + (k : Int)) = (base : Int) + 1 + (k : Int) := u64w _ (by omega) (by omega)
      go_wp2
      go_ret
      exact ⟨_, _, es, rfl, HM.out.ents HLE.out, HG.out, HM.out.bel⟩
end Go.Proofs.Ytapfggpeodpflaa

/- In which order lists come is of no matter, where no two entries of one index and one term are unlike: for all inputs. -/
import Derived.Test.YtoopeppcmoolgaaMrev
namespace Go.Proofs.Ytoopeppcmoolgaa
open Go.RowKit
set_option maxRecDepth 20000

def Pair1 (e x : En) : Prop := e.ix = x.ix → e.tm = x.tm → e.alike x = true
theorem li_snoc (Ls : List Li) (i : Nat) (l : Li) (h : Ls[i]? = some l) : Li.lay.flat (Ls.take (i + 1)) = Li.lay.flat (Ls.take i) ++ [l.v] := by
  unfold Lay.flat
  rw [List.take_add_one, h, List.flatMap_append]
  rfl
set_option maxHeartbeats 8000000 in
theorem mergeOrder_walk {w : World} (base0 : Int) (hb0 : (Lit.int .u64 base0).wf = true) (term0 : Int) (ht0 : (Lit.int .u64 term0).wf = true) (m : Int) (_ : (Lit.int .i64 m).wf = true) {A : Option Addr} {n c : Nat} {Ls : List Li} (h : Slc Li.lay w A n c Ls) :
    Calls Try.prog 6 #[.int .u64 base0, .int .u64 term0, .int .i64 m, .slice A n c] w fun r w' => r = .returned (.bool true) ∧ Below w.heap.size w w' := by
  obtain ⟨base, rfl, hb⟩ := wf_u64 hb0
  obtain ⟨term, rfl, ht⟩ := wf_u64 ht0
  clear hb0 ht0
  have HL := Lib.hid (light23 h base hb)
  have HM := Lib.hid (fun W (hb' : Below w.heap.size w W) (hf : Fit base Ls) => merge_any (h.below hb') hf.bn base term hf.base ht m)
  have HH := Lib.hid h
  have HT := Lib.hid ht
  clear h hb ht
  go_enter Try.func6, Try.ntmps6
  go_wp2_with (first
    | (go_at_call 7; refine HL.out.mono ?_; rintro e w1 ⟨bb, rfl, hf1, hb1⟩
       have HB1 := Lib.hid hb1
       have HF1 := Lib.hid hf1
       clear hf1 hb1
       cases bb)
    | (go_at_call 9; refine (lives23 _).mono ?_; rintro e w2 ⟨rfl, hb2⟩)
    | fail)
  · go_ret
    exact ⟨rfl, HB1.out.trans (hb2.mono HB1.out.size)⟩
  · have hfit := HF1.out trivial
    have hn7 : n ≤ 7 := by have := hfit.len; have := HH.out.len; omega
    have hni : (n : Int) ≤ 7 := by omega
    have HFT := Lib.hid hfit
    have HFIN := Lib.hid (fun W' (hb' : Below w1.heap.size w1 W') => HB1.out.trans (hb'.mono HB1.out.size))
    clear HL HF1 hfit
    go_loopw [9, 10, 14, 27, 46, 52, 58] (fun tv _ _ ir _ _ _ wr => ∃ (i : Nat), i ≤ n ∧ ir = .int .i64 (i : Int) ∧ Hid (wr.ownsRow w1.heap.size 32 1 tv i (Li.lay.flat (Ls.reverse.take i))) ∧ Hid (∀ a l, a < i → Ls[a]? = some l → ∀ e ∈ l.es, ∀ x ∈ flat Ls, Pair1 e x) ∧ Hid (Below w1.heap.size w1 wr)) (fun _ _ _ ir _ _ _ _ => n - (intOf ir).toNat)
    case atStart => exact ⟨0, Nat.zero_le _, rfl, Lib.hid (World.ownsRow_nil w1 _ _ _), Lib.hid (fun a l h => absurd h (Nat.not_lt_zero _)), Lib.hid (Below.refl _ _)⟩
    case round =>
      obtain ⟨i, hi, rfl, HO, HN, HBW⟩ := hrel
      by_cases hlt : i < n
      · obtain ⟨q, hq⟩ : ∃ q : Nat, (n : Int) - 1 - (i : Int) = (q : Int) := ⟨n - 1 - i, by omega⟩
        have hqn : q = n - 1 - i := by omega
        have hqi : (q : Int) < (n : Int) := by omega
        have hlti : (i : Int) < (n : Int) := by omega
        have hn1 : 1 ≤ (n : Int) := by omega
        obtain ⟨l0, hl⟩ : ∃ l0, Ls[i]? = some l0 := ⟨_, List.getElem?_eq_getElem (by have := HH.out.len; omega)⟩
        obtain ⟨lq, hlq⟩ : ∃ lq, Ls[q]? = some lq := ⟨_, List.getElem?_eq_getElem (by have := HH.out.len; omega)⟩
        have hrev : Ls.reverse[i]? = some lq := by
          have hln := HH.out.len
          rw [List.getElem?_reverse (by omega), show Ls.length - 1 - i = q by omega]
          exact hlq
        obtain ⟨bl, ol, hAl, hblb, hcl⟩ := HH.out.at_ (by omega)
        subst hAl
        have hrd : Ents w l0.A l0.n l0.c l0.es := HH.out.reads l0 (List.mem_of_getElem? hl)
        have HBX := Lib.hid (HFIN.out wr HBW.out)
        have kq : wr.cell? ⟨bl, ol + q, none⟩ = some (.slice lq.A lq.n lq.c) := (HBX.out.cell (p := ⟨bl, ol + q, none⟩) hblb).trans (by have := hcl q lq hlq 0 (.slice lq.A lq.n lq.c) rfl; rwa [Nat.mul_one, Nat.add_zero] at this)
        have HKL := Lib.hid (fun W' (hb' : Below w.heap.size w W') => (show W'.cell? ⟨bl, ol + i, none⟩ = some (.slice l0.A l0.n l0.c) from (hb'.cell (p := ⟨bl, ol + i, none⟩) hblb).trans (by have := hcl i l0 hl 0 (.slice l0.A l0.n l0.c) rfl; rwa [Nat.mul_one, Nat.add_zero] at this)))
        have HE := Lib.hid hrd
        have HL := Lib.hid hl
        have hcl2 := hrd.rd.2.1
        have hncl := hrd.rd.1
        have hnl : (l0.n : Int) ≤ 9223372036854775807 := by unfold maxLen at hcl2; omega
        have HSN := Lib.hid (li_snoc _ _ _ hrev)
        have HLT := Lib.hid hlt
        clear hcl hl hlq hrev hrd hcl2 hncl hqn
        obtain ⟨At, ct, htv⟩ := ownsRow_form HO.out
        subst htv
        obtain ⟨Aq, nq, cq, esq⟩ := lq
        dsimp only at kq
        go_wp2_with (first
          | (at_builtin
             refine wpL_app (o := ⟨some 40, _, _, _, _, _⟩) (v := .slice At i ct) (y := .slice (some ⟨wr.heap.size, 0, none⟩) 1 1) rfl (.tmp 30) (.tmp 39) _ _ rfl E_li rfl rfl (HO.out.alloc _) (Src.lit' rfl (n := 1) (sz := 1) Try.underlying23 #[.slice Aq nq cq] rfl (by simp [Value.oneCell'])) (by unfold maxLen; omega) (by omega) (by have := HBW.out.size; simp; omega) ?_
             intro v3 w3 hown3 hg3 hat3
             have hw3 : Below w1.heap.size w1 w3 := (HBW.out.alloc HBW.out.size _).grown hg3 (by have := HBW.out.size; simp; omega) (fun k e => (HO.out.lt k e).1)
             obtain ⟨A3, c3, rfl⟩ := ownsRow_form hown3
             have HB3 := Lib.hid hw3
             have HO3 := Lib.hid hown3
             have kl := HKL.out w3 (HFIN.out w3 hw3)
             clear hown3 hg3 hat3 hw3 kq)
          | fail)
        clear HBX HBW HO
        go_loopw [14, 46, 52, 58] (fun _ kr _ _ wr => ∃ (k : Nat), k ≤ l0.n ∧ kr = .int .i64 (k : Int) ∧ Hid (∀ b e, b < k → l0.es[b]? = some e → ∀ x ∈ flat Ls, Pair1 e x) ∧ Hid (Below w3.heap.size w3 wr)) (fun _ kr _ _ _ => l0.n - (intOf kr).toNat)
        case atStart => exact ⟨0, Nat.zero_le _, rfl, Lib.hid (fun a l h => absurd h (Nat.not_lt_zero _)), Lib.hid (Below.refl _ _)⟩
        case round =>
          clear kl
          obtain ⟨k, hk, rfl, HN2, HBW⟩ := hrel
          by_cases hkl : k < l0.n
          · obtain ⟨e0, he⟩ : ∃ e0, l0.es[k]? = some e0 := ⟨_, List.getElem?_eq_getElem (by have := HE.out.len; omega)⟩
            obtain ⟨b1, o1, hA1, hb1b, hc1⟩ := HE.out.rd.2.2.2 (by omega)
            have hbx : Below w.heap.size w wr := HFIN.out wr (HB3.out.trans (HBW.out.mono HB3.out.size))
            have hce := fun c u (hu : e0.cells[c]? = some u) => (hbx.cell (p := ⟨b1, o1 + (k * 10 + c), none⟩) hb1b).trans (hc1 _ _ (ens_get l0.es k _ he c u hu))
            have HE0 := Lib.hid he
            have HKK := Lib.hid hkl
            have hkk : (k : Int) < (l0.n : Int) := by omega
            have hkj : (k : Int) ≤ 9223372036854775806 := by omega
            clear hc1 he hbx hkl
            obtain ⟨ix, tm, st, kd, cl, rq, fr, ct, da, A1, bn, bc, ls⟩ := e0
            obtain ⟨A0, n0, c0, es0⟩ := l0
            dsimp only at hA1
            subst hA1
            unfold En.cells at hce
            dsimp only at *
            have k0 := hce 0 _ rfl
            have k1 := hce 1 _ rfl
            have k2 := hce 2 _ rfl
            have k3 := hce 3 _ rfl
            have k4 := hce 4 _ rfl
            have k5 := hce 5 _ rfl
            have k6 := hce 6 _ rfl
            have k7 := hce 7 _ rfl
            have k8 := hce 8 _ rfl
            have k9 := hce 9 _ rfl
            try dsimp only at k0 k1 k2 k3 k4 k5 k6 k7 k8 k9
            simp only [← Nat.add_assoc, Nat.add_zero] at k0 k1 k2 k3 k4 k5 k6 k7 k8 k9
            clear hce
            obtain ⟨W4, hW4, hz4, r12, hb4⟩ := row1 wr #[.int .u64 (ix : Int), .int .u64 (tm : Int), .int .u64 (st : Int), .int .i64 kd, .int .u64 (cl : Int), .int .u64 (rq : Int), .int .u32 (fr : Int), .int .u32 (ct : Int), .string (str da), .slice A1 bn bc] 29
            have HR12 := Lib.hid (show ERow W4 wr.heap.size ⟨ix, tm, st, kd, cl, rq, fr, ct, da, A1, bn, bc, ls⟩ from r12)
            have HB4 := Lib.hid (HB3.out.trans ((HBW.out.trans (hb4.mono HBW.out.size)).mono HB3.out.size))
            have HB34 := Lib.hid (HBW.out.trans (hb4.mono HBW.out.size))
            go_wp2_with (fail)
            rw [← hW4]
            obtain ⟨p12, hp12⟩ : ∃ p12, wr.heap.size = p12 := ⟨_, rfl⟩
            rw [hp12] at HR12 ⊢
            clear hp12 hW4 hz4 r12 hb4 k0 k1 k2 k3 k4 k5 k6 k7 k8 k9 HBW
            go_loopw [14, 52, 58] (fun _ jr _ wr => ∃ (j : Nat), j ≤ n ∧ jr = .int .i64 (j : Int) ∧ Hid (∀ a l, a < j → Ls[a]? = some l → ∀ x ∈ l.es, Pair1 ⟨ix, tm, st, kd, cl, rq, fr, ct, da, A1, bn, bc, ls⟩ x) ∧ Hid (Below W4.heap.size W4 wr)) (fun _ jr _ _ => n - (intOf jr).toNat)
            case atStart => exact ⟨0, Nat.zero_le _, rfl, Lib.hid (fun a l h => absurd h (Nat.not_lt_zero _)), Lib.hid (Below.refl _ _)⟩
            case round =>
              obtain ⟨j, hj, rfl, HN3, HBW⟩ := hrel
              by_cases hjn : j < n
              · obtain ⟨l1, hl1⟩ : ∃ l1, Ls[j]? = some l1 := ⟨_, List.getElem?_eq_getElem (by have := HH.out.len; omega)⟩
                obtain ⟨bm, om, hAm, hbmb, hcm⟩ := HH.out.at_ (by omega)
                cases hAm
                have hrd1 : Ents w l1.A l1.n l1.c l1.es := HH.out.reads l1 (List.mem_of_getElem? hl1)
                have HBX := Lib.hid (fun W' (hb' : Below W4.heap.size W4 W') => HFIN.out W' (HB4.out.trans (hb'.mono HB4.out.size)))
                have kj : wr.cell? ⟨bl, ol + j, none⟩ = some (.slice l1.A l1.n l1.c) := ((HBX.out wr HBW.out).cell (p := ⟨bl, ol + j, none⟩) hbmb).trans (by have := hcm j l1 hl1 0 (.slice l1.A l1.n l1.c) rfl; rwa [Nat.mul_one, Nat.add_zero] at this)
                have HE1 := Lib.hid hrd1
                have HL1 := Lib.hid hl1
                have hcm2 := hrd1.rd.2.1
                have hncm := hrd1.rd.1
                have hnl1 : (l1.n : Int) ≤ 9223372036854775807 := by unfold maxLen at hcm2; omega
                have hjni : (j : Int) < (n : Int) := by omega
                clear hcm hl1 hrd1 hcm2 hncm
                obtain ⟨wo, rfl⟩ : ∃ wo : World, wo = wr := ⟨_, rfl⟩
                go_wp2_with (fail)
                go_loopw [58] (fun sr wr => ∃ (s : Nat), s ≤ l1.n ∧ sr = .int .i64 (s : Int) ∧ Hid (∀ b x, b < s → l1.es[b]? = some x → Pair1 ⟨ix, tm, st, kd, cl, rq, fr, ct, da, A1, bn, bc, ls⟩ x) ∧ Hid (Below W4.heap.size W4 wr)) (fun sr _ => l1.n - (intOf sr).toNat)
                case atStart => exact ⟨0, Nat.zero_le _, rfl, Lib.hid (fun a l h => absurd h (Nat.not_lt_zero _)), HBW⟩
                case round =>
                  clear HBW kj
                  obtain ⟨s, hs, rfl, HN4, HBW⟩ := hrel
                  by_cases hsl : s < l1.n
                  · obtain ⟨y0, hy⟩ : ∃ y0, l1.es[s]? = some y0 := ⟨_, List.getElem?_eq_getElem (by have := HE1.out.len; omega)⟩
                    obtain ⟨b2, o2, hA2, hb2b, hc2⟩ := HE1.out.rd.2.2.2 (by omega)
                    have hce := fun c u (hu : y0.cells[c]? = some u) => ((HBX.out wr HBW.out).cell (p := ⟨b2, o2 + (s * 10 + c), none⟩) hb2b).trans (hc2 _ _ (ens_get l1.es s _ hy c u hu))
                    have HY0 := Lib.hid hy
                    have HAK := Lib.hid (fun W' => alike_any ⟨ix, tm, st, kd, cl, rq, fr, ct, da, A1, bn, bc, ls⟩ y0 W')
                    have HAB := Lib.hid (fun o : Obj => HBW.out.alloc HBW.out.size o)
                    have hsk : (s : Int) < (l1.n : Int) := by omega
                    have hsj : (s : Int) ≤ 9223372036854775806 := by omega
                    have HSK := Lib.hid hsl
                    obtain ⟨T, hT⟩ : ∃ T, En.alike ⟨ix, tm, st, kd, cl, rq, fr, ct, da, A1, bn, bc, ls⟩ y0 = T := ⟨_, rfl⟩
                    rw [hT] at HAK
                    have HT2 := Lib.hid hT
                    have hrow12 := row_below HR12.out HBW.out
                    have HNX := Lib.hid (fun (hb : Pair1 ⟨ix, tm, st, kd, cl, rq, fr, ct, da, A1, bn, bc, ls⟩ y0) a e (ha : a < s + 1) (he : l1.es[a]? = some e) => (show Pair1 ⟨ix, tm, st, kd, cl, rq, fr, ct, da, A1, bn, bc, ls⟩ e from by
                      rcases Nat.lt_or_ge a s with h1 | h1
                      · exact HN4.out a e h1 he
                      · obtain rfl : a = s := by omega
                        rw [HY0.out] at he
                        cases he
                        exact hb))
                    clear hc2 hy hT hsl HN4
                    have x0 : ∀ o : Obj, (wr.alloc o).cell? ⟨p12, 0, none⟩ = some (.int .u64 (ix : Int)) := fun o => cell_old o ((cell_of_row wr p12 0 _ _ _ hrow12).trans rfl)
                    have x1 : ∀ o : Obj, (wr.alloc o).cell? ⟨p12, 1, none⟩ = some (.int .u64 (tm : Int)) := fun o => cell_old o ((cell_of_row wr p12 1 _ _ _ hrow12).trans rfl)
                    have x2 : ∀ o : Obj, (wr.alloc o).cell? ⟨p12, 2, none⟩ = some (.int .u64 (st : Int)) := fun o => cell_old o ((cell_of_row wr p12 2 _ _ _ hrow12).trans rfl)
                    have x3 : ∀ o : Obj, (wr.alloc o).cell? ⟨p12, 3, none⟩ = some (.int .i64 kd) := fun o => cell_old o ((cell_of_row wr p12 3 _ _ _ hrow12).trans rfl)
                    have x4 : ∀ o : Obj, (wr.alloc o).cell? ⟨p12, 4, none⟩ = some (.int .u64 (cl : Int)) := fun o => cell_old o ((cell_of_row wr p12 4 _ _ _ hrow12).trans rfl)
                    have x5 : ∀ o : Obj, (wr.alloc o).cell? ⟨p12, 5, none⟩ = some (.int .u64 (rq : Int)) := fun o => cell_old o ((cell_of_row wr p12 5 _ _ _ hrow12).trans rfl)
                    have x6 : ∀ o : Obj, (wr.alloc o).cell? ⟨p12, 6, none⟩ = some (.int .u32 (fr : Int)) := fun o => cell_old o ((cell_of_row wr p12 6 _ _ _ hrow12).trans rfl)
                    have x7 : ∀ o : Obj, (wr.alloc o).cell? ⟨p12, 7, none⟩ = some (.int .u32 (ct : Int)) := fun o => cell_old o ((cell_of_row wr p12 7 _ _ _ hrow12).trans rfl)
                    have x8 : ∀ o : Obj, (wr.alloc o).cell? ⟨p12, 8, none⟩ = some (.string (str da)) := fun o => cell_old o ((cell_of_row wr p12 8 _ _ _ hrow12).trans rfl)
                    have x9 : ∀ o : Obj, (wr.alloc o).cell? ⟨p12, 9, none⟩ = some (.slice A1 bn bc) := fun o => cell_old o ((cell_of_row wr p12 9 _ _ _ hrow12).trans rfl)
                    clear hrow12
                    obtain ⟨ix2, tm2, st2, kd2, cl2, rq2, fr2, ct2, da2, A4, bn2, bc2, ls2⟩ := y0
                    obtain ⟨A9, n9, c9, es9⟩ := l1
                    dsimp only at hA2
                    subst hA2
                    unfold Pair1 at HNX
                    unfold En.cells at hce HAK
                    dsimp only at *
                    have k0 := hce 0 _ rfl
                    have k1 := hce 1 _ rfl
                    have k2 := hce 2 _ rfl
                    have k3 := hce 3 _ rfl
                    have k4 := hce 4 _ rfl
                    have k5 := hce 5 _ rfl
                    have k6 := hce 6 _ rfl
                    have k7 := hce 7 _ rfl
                    have k8 := hce 8 _ rfl
                    have k9 := hce 9 _ rfl
                    try dsimp only at k0 k1 k2 k3 k4 k5 k6 k7 k8 k9
                    simp only [← Nat.add_assoc, Nat.add_zero] at k0 k1 k2 k3 k4 k5 k6 k7 k8 k9
                    clear hce
                    by_cases hix : ix = ix2
                    · by_cases heq : tm = tm2
                      · subst hix heq
                        cases T
                        · go_wp2_with (first
                            | (go_at_call 19; refine (HAK.out _).mono ?_; rintro e w8 ⟨rfl, hb8⟩; have HB8 := Lib.hid ((HAB.out _).trans (hb8.mono (HAB.out _).size)))
                            | (go_at_call 9; refine (lives23 _).mono ?_; rintro e w9 ⟨rfl, hb9⟩)
                            | fail)
                          go_ret
                          have hx8 := HBX.out _ HB8.out
                          exact ⟨rfl, hx8.trans (hb9.mono hx8.size)⟩
                        · go_wp2_with (first
                            | (go_at_call 19; refine (HAK.out _).mono ?_; rintro e w8 ⟨rfl, hb8⟩; have HB8 := Lib.hid ((HAB.out _).trans (hb8.mono (HAB.out _).size)))
                            | fail)
                          go_roundw
                          case rel => exact ⟨s + 1, HSK.out, by go_num, Lib.hid (HNX.out (fun _ _ => HT2.out)), Lib.hid HB8.out⟩
                          case measure => have := HSK.out; simp [intOf]; omega
                      · subst hix
                        have q2 : ((tm : Int) == (tm2 : Int)) = false := by simp; omega
                        go_wp2_with (fail)
                        go_roundw
                        case rel => exact ⟨s + 1, HSK.out, by go_num, Lib.hid (HNX.out (fun _ h => absurd h heq)), Lib.hid (HAB.out _)⟩
                        case measure => have := HSK.out; simp [intOf]; omega
                    · have q1 : ((ix : Int) == (ix2 : Int)) = false := by simp; omega
                      go_wp2_with (fail)
                      go_roundw
                      case rel => exact ⟨s + 1, HSK.out, by go_num, Lib.hid (HNX.out (fun h => absurd h hix)), Lib.hid (HAB.out _)⟩
                      case measure => have := HSK.out; simp [intOf]; omega
                  · obtain rfl : s = l1.n := by omega
                    go_wp2
                    go_roundw
                    case rel => exact ⟨j + 1, by omega, by go_num, Lib.hid (fun a l ha hl x hx => by
                      rcases Nat.lt_or_ge a j with h1 | h1
                      · exact HN3.out a l h1 hl x hx
                      · obtain rfl : a = j := by omega
                        rw [HL1.out] at hl
                        cases hl
                        obtain ⟨b, hb⟩ := List.getElem?_of_mem hx
                        exact HN4.out b x (by have h1 := (List.getElem?_eq_some_iff.1 hb).1; have := HE1.out.len; omega) hb), HBW⟩
                    case measure => simp [intOf]; omega
              · obtain rfl : j = n := by omega
                go_wp2
                go_roundw
                case rel => exact ⟨k + 1, HKK.out, by go_num, Lib.hid (fun a e ha he x hx => by
                  rcases Nat.lt_or_ge a k with h1 | h1
                  · exact HN2.out a e h1 he x hx
                  · obtain rfl : a = k := by omega
                    rw [HE0.out] at he
                    cases he
                    unfold flat at hx
                    obtain ⟨l, hl, hx⟩ := List.mem_flatMap.1 hx
                    obtain ⟨b, hb⟩ := List.getElem?_of_mem hl
                    exact HN3.out b l (by have h1 := (List.getElem?_eq_some_iff.1 hb).1; have := HH.out.len; omega) hb x hx), Lib.hid (HB34.out.trans (HBW.out.mono HB34.out.size))⟩
                case measure => have := HKK.out; simp [intOf]; omega
          · obtain rfl : k = l0.n := by omega
            go_wp2
            go_roundw
            case rel => exact ⟨i + 1, HLT.out, by go_num, Lib.hid (by rw [HSN.out]; exact owns_below HO3.out HBW.out), Lib.hid (fun a l ha hl e he => by
              rcases Nat.lt_or_ge a i with h1 | h1
              · exact HN.out a l h1 hl e he
              · obtain rfl : a = i := by omega
                rw [HL.out] at hl
                cases hl
                obtain ⟨b, hb⟩ := List.getElem?_of_mem he
                exact HN2.out b e (by have h1 := (List.getElem?_eq_some_iff.1 hb).1; have := HE.out.len; omega) hb), Lib.hid (HB3.out.trans (HBW.out.mono HB3.out.size))⟩
            case measure => have := HLT.out; simp [intOf]; omega
      · obtain rfl : i = n := by omega
        have hag : Agree Ls := fun e he x hx => by
          unfold flat at he
          obtain ⟨l, hl, he⟩ := List.mem_flatMap.1 he
          obtain ⟨a, ha⟩ := List.getElem?_of_mem hl
          exact HN.out a l (by have h1 := (List.getElem?_eq_some_iff.1 ha).1; have := HH.out.len; omega) ha e he x hx
        obtain ⟨At, ct, htv⟩ := ownsRow_form HO.out
        subst htv
        have hbx := HFIN.out wr HBW.out
        have hHO := HO.out
        rw [List.take_of_length_le (by rw [List.length_reverse]; have := HH.out.len; omega)] at hHO
        have hs2 : Slc Li.lay wr At i ct Ls.reverse := ⟨ownsRow_rd hHO, by rw [List.length_reverse]; exact HH.out.len, fun l hl => Li.lay.below l w wr (HH.out.reads l (List.mem_reverse.1 hl)) hbx⟩
        have HMA := Lib.hid (HM.out wr hbx HFT.out)
        have HMB := Lib.hid (fun W' (hb' : Below wr.heap.size wr W') => merge_any (hs2.below hb') (fun e he => HFT.out.bn e ((flat_rev Ls e).1 he)) base term HFT.out.base HT.out m)
        unfold TMerge at HMA HMB
        rw [rev_has] at HMB
        have hH192 := hadN_le (hasE Ls base) 192
        have HRG := Lib.hid (fun j A' c' A'' c'' W' => (show Calls Try.prog 19 #[.agg ((goes base term m Ls (hadN (hasE Ls base) 192) j).put A' c').cells, .agg ((goes base term m Ls.reverse (hadN (hasE Ls base) 192) j).put A'' c'').cells] W' fun r w' => r = .returned (.bool true) ∧ Below W'.heap.size W' w' from by
          have h1 := alike_any ((goes base term m Ls (hadN (hasE Ls base) 192) j).put A' c') ((goes base term m Ls.reverse (hadN (hasE Ls base) 192) j).put A'' c'') W'
          rwa [rev_goes hag] at h1))
        have HBX := Lib.hid hbx
        have hHi : ((hadN (hasE Ls base) 192 : Nat) : Int) ≤ 192 := by omega
        clear hag hHO hs2 HM HN HO hbx hH192
        generalize hadN (hasE Ls base) 192 = H at *
        go_wp2_with (first
          | (go_at_call 16; refine HMA.out.mono ?_; rintro e w4 ⟨A4, c4, es1, rfl, hE1, hG1, hb4⟩
             have HE1 := Lib.hid hE1
             have HG1 := Lib.hid hG1
             have HB4 := Lib.hid hb4
             clear hE1 hG1 hb4 HMA)
          | (go_at_call 16; refine (HMB.out _ HB4.out).mono ?_; rintro e w5 ⟨A5, c5, es2, rfl, hE2, hG2, hb5⟩
             have HE2 := Lib.hid hE2
             have HG2 := Lib.hid hG2
             have HE1' := Lib.hid (HE1.out.below hb5)
             have HB5 := Lib.hid (HBX.out.trans ((HB4.out.trans (hb5.mono HB4.out.size)).mono HBX.out.size))
             clear hE2 hG2 hb5 HMB)
          | fail)
        go_loopw [19, 107] (fun _ kr wr => ∃ (k : Nat), k ≤ H ∧ kr = .int .i64 (k : Int) ∧ Hid (Below w5.heap.size w5 wr)) (fun _ kr _ => H - (intOf kr).toNat)
        case atStart => exact ⟨0, Nat.zero_le _, rfl, Lib.hid (Below.refl _ _)⟩
        case round =>
          obtain ⟨k, hk, rfl, HBI⟩ := hrel
          by_cases hkH : k < H
          · have hki : (k : Int) < (H : Int) := by omega
            obtain ⟨A', c', hg1⟩ := HG1.out k hkH
            obtain ⟨A'', c'', hg2⟩ := HG2.out k hkH
            obtain ⟨b6, o6, hA6, _⟩ := HE1'.out.rd.2.2.2 (by omega)
            obtain ⟨b7, o7, hA7, _⟩ := HE2.out.rd.2.2.2 (by omega)
            subst hA6 hA7
            have HL1 := Lib.hid (fun W' (hb' : Below wr.heap.size wr W') => ents_loads (HE1'.out.below (HBI.out.trans (hb'.mono HBI.out.size))) hg1)
            have HL2 := Lib.hid (fun W' (hb' : Below wr.heap.size wr W') => ents_loads (HE2.out.below (HBI.out.trans (hb'.mono HBI.out.size))) hg2)
            have HAL := Lib.hid (HRG.out k A' c' A'' c'')
            have HKH := Lib.hid hkH
            clear hg1 hg2 hkH
            generalize (goes base term m Ls H k).put A' c' = ea at *
            generalize (goes base term m Ls.reverse H k).put A'' c'' = eb at *
            go_wp2_with (fail)
            refine wp_low wr.heap.size [([0, 1, 2, 3, 4, 5, 6, 7], 8)] [9] (by kernel_rfl) (by kernel_rfl) (fun d _ _ _ _ h => by cases d <;> exact h) (Nat.le_refl _) fun wd hbd => ?_
            intro q hq
            simp only [pickI, Option.toList_some, List.cons_append, List.nil_append, List.getElem?_toArray, List.getElem?_cons_succ, List.getElem?_cons_zero]
            try go_frame
            go_big_quiet_step (fail)
            go_big_quiet_step (fail)
            go_big_quiet_step (fail)
            refine wpQ_load rfl _ (.tmp 112) rfl rfl (fun w hw => by obtain ⟨z, rfl⟩ := hw; exact HL1.out _ (hq z)) ?_
            try go_frame
            go_big_quiet_step (fail)
            go_big_quiet_step (fail)
            go_big_quiet_step (fail)
            refine wpQ_load rfl _ (.tmp 116) rfl rfl (fun w hw => by obtain ⟨z, rfl⟩ := hw; exact HL2.out _ (hq z)) ?_
            try go_frame
            refine wpQuiet_nil ?_
            clear hq q
            refine seg_op (by simp only [List.getElem?_toArray, List.getElem?_cons_succ, List.getElem?_cons_zero]; rfl) fun K hK => ?_
            go_simp
            refine (HAL.out _).mono ?_
            rintro e v0 ⟨rfl, bv0⟩
            have zv0 := hbd.trans (bv0.mono hbd.size)
            refine hK.out _ _ (seg_keep zv0 ?_)
            clear hK K
            intro q hq
            simp only [pickI, Option.toList_some, List.cons_append, List.nil_append, List.getElem?_toArray, List.getElem?_cons_succ, List.getElem?_cons_zero]
            try go_frame
            go_big_quiet_step (fail)
            refine wpQuiet_nil ?_
            clear hq q
            go_wp2
            go_roundw
            case rel => exact ⟨k + 1, HKH.out, by go_num, Lib.hid (HBI.out.trans (zv0.mono HBI.out.size))⟩
            case measure => have := HKH.out; simp [intOf]; omega
          · obtain rfl : k = H := by omega
            go_wp2_with (first
              | (go_at_call 9; refine (lives23 _).mono ?_; rintro e w9 ⟨rfl, hb9⟩)
              | fail)
            go_ret
            exact ⟨rfl, HB5.out.trans ((HBI.out.trans (hb9.mono HBI.out.size)).mono HB5.out.size)⟩
namespace mergeOrder
open Go.ChangeShapes Go.WideShapes Go.ChangeAt
set_option maxRecDepth 100000 in
theorem lifted (os : Os) (started : os.Started) (H : Type) (enc : TypeId × Value → H) :
    ReturnsInHanded {} Try.checked os 6 .any (Rows.mergeOrderSpec.pre6 enc Try.prog Try.f6 Rows.mergeOrderRow.domain false) (Rows.mergeOrderSpec.post enc Try.prog Try.f6 false true false false) := by
  refine returnsInHanded_of_change (C := Try.checked) own started (by kernel_rfl) Try.func6
    (ChangeSpec.witness6 (enc := enc) (C := Try.checked) false ⟨#[], #[.int .u64 0, .int .u64 0, .int .i64 0, .slice none 0 0], []⟩ 8 (by kernel_rfl) (by kernel_rfl) (by kernel_rfl) (by kernel_rfl)) ?_
  intro W base args ds gs before hval0 hW _ _
  have hval : ∀ (j : Nat) t v, Try.f6.params[j]? = some t → args[j]? = some v → Value.okWide Try.prog W .any base t v := hval0
  have hW' := hW
  obtain ⟨p, q, hA0, hV, rfl, hfz, hnd⟩ := hW
  have hA : DataW.TrodAll enc Try.prog W 0 (fun _ => true) true Try.f6.params.toList args.toList ds p := hA0
  rw [Try.params6] at hA hval
  obtain ⟨v0, vs0, d0, ds0, p0, q0, hargs, rfl, rfl, h0, r0⟩ := trodAll_cons hA
  obtain ⟨v1, vs1, d1, ds1, p1, q1, rfl, rfl, rfl, h1, r1⟩ := trodAll_cons r0
  obtain ⟨v2, vs2, d2, ds2, p2, q2, rfl, rfl, rfl, h2, r2⟩ := trodAll_cons r1
  obtain ⟨v3, vs3, d3, ds3, p3, q3, rfl, rfl, rfl, h3, r3⟩ := trodAll_cons r2
  obtain ⟨rfl, rfl, rfl⟩ := trodAll_nil r3
  obtain rfl : args = #[v0, v1, v2, v3] := by cases args; simp_all
  obtain ⟨rfl, rfl⟩ := trodVars_none hV
  have k0 := h0
  have lt0 : ∀ x ∈ p0, x.block < W.heap.size := by obtain ⟨m, hm⟩ := k0; exact DataW.trod_lt m _ _ _ hm
  obtain ⟨x0, rfl, w0⟩ := dec_int Try.underlying22 (hval 0 22 v0 rfl rfl) h0
  have k1 := h1
  have lt1 : ∀ x ∈ p1, x.block < W.heap.size := by obtain ⟨m, hm⟩ := k1; exact DataW.trod_lt m _ _ _ hm
  obtain ⟨x1, rfl, w1⟩ := dec_int Try.underlying22 (hval 1 22 v1 rfl rfl) h1
  have k2 := h2
  have lt2 : ∀ x ∈ p2, x.block < W.heap.size := by obtain ⟨m, hm⟩ := k2; exact DataW.trod_lt m _ _ _ hm
  obtain ⟨x2, rfl, w2⟩ := dec_int Try.underlying3 (hval 2 3 v2 rfl rfl) h2
  have k3 := h3
  have lt3 : ∀ x ∈ p3, x.block < W.heap.size := by obtain ⟨m, hm⟩ := k3; exact DataW.trod_lt m _ _ _ hm
  obtain ⟨a3, n3, c3, l3, rfl, w3⟩ := Li.dec (hval 3 23 v3 rfl rfl) h3
  clear hA0 hval0
  refine (mergeOrder_walk x0 w0 x1 w1 x2 w2 w3).mono fun e W' ⟨he, bel⟩ => ?_
  subst he
  exact ⟨_, rfl, _, _, _, [], _, [], hW', trodAll_mk1 (shut_bool Try.underlying4 _), (trodAll_cons_mk (Below.trod laidOut (by kernel_rfl) (of_decide_eq_true (by kernel_rfl)) k0 bel lt0) (trodAll_cons_mk (Below.trod laidOut (by kernel_rfl) (of_decide_eq_true (by kernel_rfl)) k1 bel lt1) (trodAll_cons_mk (Below.trod laidOut (by kernel_rfl) (of_decide_eq_true (by kernel_rfl)) k2 bel lt2) (trodAll_cons_mk (Below.trod laidOut (by kernel_rfl) (of_decide_eq_true (by kernel_rfl)) k3 bel lt3) trodAll_mk0)))), rfl, bel.frame _, fun h => by cases h⟩

theorem over : Rows.mergeOrderRow.holds Try.pinned (OpenSpec.ofChange Rows.mergeOrderSpec) :=
  OpenClaim.holds_of_wide 6 Try.f6 rfl rfl rfl rfl rfl rfl rfl ⟨rfl, rfl, rfl, rfl, rfl⟩ rfl rfl rfl rfl rfl (by kernel_rfl) Try.func6 (by kernel_rfl)
    (of_decide_eq_true (by kernel_rfl)) (by unfold Func.isWrapper; first | (rw [if_pos (by decide +kernel)]; kernel_rfl) | (rw [if_neg (by decide +kernel)]; exact ⟨rfl, rfl⟩))
    (fun os started H enc _ => lifted os started H enc)
/-- The given statement. -/
theorem proved : Rows.MergeOrderSaid := over
end mergeOrder

end Go.Proofs.Ytoopeppcmoolgaa

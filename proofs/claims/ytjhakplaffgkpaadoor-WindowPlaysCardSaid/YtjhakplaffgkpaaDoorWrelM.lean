/- The reference's Committed, Lacks and Ack. The reference's Lacks and Ack. A window and the reference's: what makes them the same. -/
import Derived.Test.YtjhakplaffgkpaaDoorWrefM
import Derived.Test.YtjhakplaffgkpaaDoorMmadeM
import Derived.Test.YtjhakplaffgkpaaDoorWnewM
namespace Go.Proofs.YtjhakplaffgkpaaDoor
open Go.RowKit
set_option maxRecDepth 20000

/-- The reference's Set, whether there is room or not. -/
theorem rsetR_any (M : Nat × Nat) (x : Nat) (w : World) (h : MOk M) (hx : x < 18446744073709551616) : ∃ er : Int,
    Calls Tryd.prog 34 #[.agg #[.int .u64 (M.1 : Int), .int .u64 (M.2 : Int)], .int .u64 (x : Int)] w fun e w' => e = .returned (.tuple #[.agg #[.int .u64 ((msetR M x).1 : Int), .int .u64 ((msetR M x).2 : Int)], .int .i64 er]) ∧ Below w.heap.size w w' := by
  unfold msetR
  by_cases hr : Room M.1 x
  · rw [if_pos hr]
    exact ⟨0, rset_ok M.1 M.2 x w h.2 h.1 hr⟩
  · rw [if_neg hr]
    exact ⟨30, rset_no M.1 M.2 x w h.1.1 hx hr⟩
section
variable {w w' : World} {B r n low : Nat} {v : Value} {L : List (Int × Nat)}
def rS (L : List (Int × Nat)) (n : Nat) (x : Nat) : Bool := Qu.majB (whoTo L x n) (2 ^ n - 1)
set_option maxHeartbeats 4000000 in
theorem rcom_any (h : Rw w B r v n low L) (hL : L.length ≤ 1000) (h7 : n ≤ 7) (hlo : low ≤ 4611686018427387584) :
    Calls Tryd.prog 16 #[.pointer (some ⟨r, 0, none⟩)] w (TellsM w (comS (rS L n) low 192)) := by
  obtain ⟨W, hW, hWs, r0, r1, hwW⟩ := boxes2 w #[.int .u64 0, .int .u64 0] #[.int .u64 (low : Int), .int .u64 0] 38 38
  have HH := Lib.hid h
  have HL := Lib.hid hL
  have H7 := Lib.hid h7
  have HLO := Lib.hid hlo
  have HR := Lib.hid (And.intro r0 r1)
  have HWW := Lib.hid hwW
  have HWS := Lib.hid hWs
  have hrW := h.below hwW
  have HRW := Lib.hid hrW
  have e1 := fun o => cell_old o h.c1
  have c1 := hrW.c1
  obtain ⟨l0, hl0⟩ : ∃ l0, low + 1 = l0 := ⟨_, rfl⟩
  obtain ⟨l9, hl9⟩ : ∃ l9, low + 192 = l9 := ⟨_, rfl⟩
  have e0 : IntKind.u64.wrap ((low : Int) + 1) = (l0 : Int) := by rw [u64w _ (by omega) (by omega)]; omega
  have e9 : IntKind.u64.wrap ((low : Int) + 192) = (l9 : Int) := by rw [u64w _ (by omega) (by omega)]; omega
  have HLL := Lib.hid (And.intro hl0 hl9)
  clear hl0 hl9
  obtain ⟨S, hS⟩ : ∃ S, rS L n = S := ⟨_, rfl⟩
  rw [hS]
  have HS := Lib.hid (fun x => congrFun hS x)
  clear h hL h7 hlo hwW hWs hrW hS r0 r1
  go_enter Tryd.func16, Tryd.ntmps16
  go_upto_region 2 with (fail)
  rw [← hW]
  clear hW e1
  go_wp2_with (fail)
  go_loopw [4] (fun ir wr => ∃ (k : Nat), k ≤ 192 ∧ ir = .int .u64 ((l0 + k : Nat) : Int) ∧ Hid (wr.heap[w.heap.size + 1]? = some (.cells #[.int .u64 ((comS S low k).1 : Int), .int .u64 ((comS S low k).2 : Int)] 38 (0, 0))) ∧ Hid (Keeps (fun j => j = w.heap.size + 1) W wr)) (fun ir _ => l0 + 200 - (intOf ir).toNat)
  case atStart => exact ⟨0, Nat.zero_le _, rfl, Lib.hid HR.out.2, Lib.hid (Keeps.refl _ _)⟩
  case round =>
    obtain ⟨k, hk, rfl, HRo, HK⟩ := hrel
    have hkb : Below w.heap.size w wr := HWW.out.trans (HK.out.below (by have := HWS.out; omega) (fun j hj => by omega))
    have hrr := HH.out.below hkb
    have c1 := hrr.c1
    by_cases hlt : k < 192
    · obtain ⟨x, hx⟩ : ∃ x, l0 + k = x := ⟨_, rfl⟩
      obtain ⟨x', hx'⟩ : ∃ x', l0 + (k + 1) = x' := ⟨_, rfl⟩
      have hxl : low + 1 + k = x := by have := HLL.out.1; omega
      have hx64 : x < 18446744073709551615 := by have := HLL.out.1; have := HLO.out; omega
      have d1 : decide (x ≤ l9) = true := by have := HLL.out; simp; omega
      have d1' : decide ((x : Int) ≤ (l9 : Int)) = true := by have := HLL.out; simp; omega
      have ew : IntKind.u64.wrap ((x : Int) + 1) = (x' : Int) := by rw [u64w _ (by omega) (by omega)]; omega
      have hsuc := comS_succ S low k
      rw [hxl] at hsuc
      have hMok := comS_ok S low k HLO.out
      have HWH := Lib.hid (fun W' (hb : Below w.heap.size w W') => rwho_any (HH.out.below hb) HL.out H7.out x)
      have HAL := Lib.hid (fun W' (hb : Below w.heap.size w W') => rall_any (HH.out.below hb) H7.out)
      have hwl : whoTo L x n < 18446744073709551616 := Nat.lt_of_lt_of_le (whoTo_lt L x n) (Nat.le_trans (Nat.pow_le_pow_right (n := 2) (by decide) H7.out) (by decide))
      have hal : 2 ^ n - 1 < 18446744073709551616 := Nat.lt_trans (all_lt n H7.out) (by decide)
      have HMJ := Lib.hid (fun W' => Qu.rmaj_any (whoTo L x n) (2 ^ n - 1) W' hwl hal)
      have hsx : Qu.majB (whoTo L x n) (2 ^ n - 1) = S x := HS.out x
      rw [hsx] at HMJ
      obtain ⟨M, hM⟩ : ∃ M, comS S low k = M := ⟨_, rfl⟩
      rw [hM] at HRo hsuc hMok
      rw [hx]
      generalize whoTo L x n = y at *
      generalize 2 ^ n - 1 = z at *
      have n0 : wr.cell? ⟨w.heap.size + 1, 0, none⟩ = some (.int .u64 (M.1 : Int)) := cell_of_row wr _ 0 _ _ _ HRo.out
      have n1 : wr.cell? ⟨w.heap.size + 1, 1, none⟩ = some (.int .u64 (M.2 : Int)) := cell_of_row wr _ 1 _ _ _ HRo.out
      have HLT := Lib.hid (And.intro hlt (And.intro hx hx'))
      have HF := Lib.hid hsuc
      have HMO := Lib.hid hMok
      have HX := Lib.hid (show x < 18446744073709551616 by omega)
      have HKB := Lib.hid hkb
      have hme : ((x : Int)).toNat = x := rfl
      have hme2 : ((x' : Int)).toNat = x' := rfl
      unfold stepS at HF
      clear hx hx' hxl hx64 hsuc hMok hwl hal hsx hM hkb hrr hlt
      cases hb : S x with
      | false =>
        rw [hb] at HMJ HF
        rw [if_neg (by decide)] at HF
        go_wp2_with (first
          | (go_at_call 14; refine (HWH.out _ HKB.out).mono ?_; rintro e w3 ⟨rfl, rfl⟩)
          | (go_at_call 33; refine (HAL.out _ HKB.out).mono ?_; rintro e w3 ⟨rfl, rfl⟩)
          | (go_at_call 32; refine (HMJ.out _).mono ?_; rintro e w3 ⟨rfl, hb3⟩)
          | fail)
        go_roundw
        case rel =>
          refine ⟨k + 1, by have := HLT.out.1; omega, by rw [HLT.out.2.2], ?_, Lib.hid (HK.out.trans (Keeps.of_below (F := fun _ => False) hb3) (fun _ h => h.elim))⟩
          rw [HF.out]
          exact Lib.hid (row_below HRo.out hb3)
        case measure => have := HLT.out; simp [intOf]; omega
      | true =>
        rw [hb] at HMJ HF
        rw [if_pos rfl] at HF
        go_wp2_with (first
          | (go_at_call 14; refine (HWH.out _ HKB.out).mono ?_; rintro e w3 ⟨rfl, rfl⟩)
          | (go_at_call 33; refine (HAL.out _ HKB.out).mono ?_; rintro e w3 ⟨rfl, rfl⟩)
          | (go_at_call 32; refine (HMJ.out _).mono ?_; rintro e w3 ⟨rfl, hb3⟩
             have HR3 := Lib.hid (row_below HRo.out hb3)
             have HK3 := Lib.hid (HK.out.trans (Keeps.of_below (F := fun _ => False) hb3) (fun _ h => h.elim))
             have m0 := cell_of_row w3 _ 0 _ _ _ HR3.out
             have m1 := cell_of_row w3 _ 1 _ _ _ HR3.out
             clear hb3)
          | fail)
        obtain ⟨er, hset⟩ := rsetR_any M x w3 HMO.out HX.out
        refine hset.mono ?_
        rintro e w4 ⟨rfl, hb4⟩
        have hr4 := row_below HR3.out hb4
        have k0 := cell_of_row w4 _ 0 _ _ _ hr4
        have k1 := cell_of_row w4 _ 1 _ _ _ hr4
        have z0 := frozen_of_row w4 _ 0 _ _ hr4
        have z1 := frozen_of_row w4 _ 1 _ _ hr4
        have HR4 := Lib.hid hr4
        have HK4 := Lib.hid (HK3.out.trans (Keeps.of_below (F := fun _ => False) hb4) (fun _ h => h.elim))
        clear hr4 hb4 hset m0 m1 n0 n1
        go_wp2_with (fail)
        go_roundw
        case rel =>
          refine ⟨k + 1, by have := HLT.out.1; omega, by rw [HLT.out.2.2], Lib.hid ?_, Lib.hid ?_⟩
          · rw [HF.out]
            have := heap_setCell_same _ _ 0 _ _ (.int .u64 ((msetR M x).1 : Int)) HR4.out
            have := heap_setCell_same _ _ 1 _ _ (.int .u64 ((msetR M x).2 : Int)) this
            rw [this]
            rfl
          · exact (HK4.out.trans (Keeps.set w4 _ 0 _) (fun i hi => .inl hi)).trans (Keeps.set _ _ 1 _) (fun i hi => .inl hi)
        case measure => have := HLT.out; simp [intOf]; omega
    · obtain rfl : k = 192 := by omega
      have d1 : decide (l0 + 192 ≤ l9) = false := by have := HLL.out; simp; omega
      have d1' : decide (((l0 + 192 : Nat) : Int) ≤ (l9 : Int)) = false := by have := HLL.out; simp; omega
      obtain ⟨x, hx⟩ : ∃ x, l0 + 192 = x := ⟨_, rfl⟩
      rw [hx] at d1 d1' ⊢
      obtain ⟨M, hM⟩ : ∃ M, comS S low 192 = M := ⟨_, rfl⟩
      rw [hM] at HRo
      have HM := Lib.hid hM
      have c0 : wr.cell? ⟨w.heap.size + 1, 0, none⟩ = some (.int .u64 (M.1 : Int)) := cell_of_row wr _ 0 _ _ _ HRo.out
      have c2 : wr.cell? ⟨w.heap.size + 1, 1, none⟩ = some (.int .u64 (M.2 : Int)) := cell_of_row wr _ 1 _ _ _ HRo.out
      have hr0 := HK.out.row HR.out.1 (by omega)
      have q0 : wr.cell? ⟨w.heap.size, 0, none⟩ = some (.int .u64 0) := cell_of_row wr _ 0 _ _ _ hr0
      have q1 : wr.cell? ⟨w.heap.size, 1, none⟩ = some (.int .u64 0) := cell_of_row wr _ 1 _ _ _ hr0
      have y0 := frozen_of_row wr _ 0 _ _ hr0
      have y1 := frozen_of_row wr _ 1 _ _ hr0
      have HKB := Lib.hid hkb
      clear hr0 hx hM hrr hkb
      go_wp2
      refine bodyPost_ret (v := .agg #[.int .u64 (M.1 : Int), .int .u64 (M.2 : Int)]) (by simp [results, Tryd.results16, go_sem, q0, q1]) rfl ?_
      rw [HM.out]
      exact ⟨rfl, (HKB.out.setCell (Nat.le_refl _) _).setCell (Nat.le_refl _) _⟩
end
end Go.Proofs.YtjhakplaffgkpaaDoor

namespace Go.Proofs.YtjhakplaffgkpaaDoor
open Go.RowKit
set_option maxRecDepth 20000

def rlackTo (L : List (Int × Nat)) (low : Nat) (node : Int) (k : Nat) : List Nat := (List.range' (low + 1) k).filter fun x => !hasL L node x
theorem rlackTo_succ (L : List (Int × Nat)) (low : Nat) (node : Int) (k : Nat) : rlackTo L low node (k + 1) = rlackTo L low node k ++ if hasL L node (low + 1 + k) = true then [] else [low + 1 + k] := by
  unfold rlackTo
  rw [List.range'_concat, List.filter_append, Nat.one_mul]
  congr 1
  cases h : hasL L node (low + 1 + k) <;> simp [h]
theorem rlackTo_len (L : List (Int × Nat)) (low : Nat) (node : Int) (k : Nat) : (rlackTo L low node k).length ≤ k := by
  unfold rlackTo
  exact Nat.le_trans (List.length_filter_le _ _) (by simp)
def rlacks (L : List (Int × Nat)) (n low : Nat) (node : Int) (top : Nat) : List Nat := if 0 ≤ node ∧ node < (n : Int) then rlackTo L low node (min top (low + 192) - low) else []
section
variable {w w' : World} {B r n low : Nat} {v : Value} {L : List (Int × Nat)}
set_option maxHeartbeats 4000000 in
theorem rlacks_any (h : Rw w B r v n low L) (hL : L.length ≤ 1000) (hlo : low ≤ 4611686018427387584) (node : Int) (top : Nat) :
    Calls Tryd.prog 19 #[.pointer (some ⟨r, 0, none⟩), .int .i64 node, .int .u64 (top : Int)] w (TellsW w (rlacks L n low node top)) := by
  have c0 := h.c0
  unfold rlacks
  by_cases hn : 0 ≤ node ∧ node < (n : Int)
  · rw [if_pos hn]
    obtain ⟨h1, h2⟩ := hn
    have q1 : decide (node < 0) = false := by simp; omega
    have q2 : decide ((n : Int) ≤ node) = false := by simp; omega
    have c1 := h.c1
    obtain ⟨l0, hl0⟩ : ∃ l0, low + 1 = l0 := ⟨_, rfl⟩
    obtain ⟨l9, hl9⟩ : ∃ l9, low + 192 = l9 := ⟨_, rfl⟩
    obtain ⟨E, hE⟩ : ∃ E, min top l9 = E := ⟨_, rfl⟩
    have e0 : IntKind.u64.wrap ((low : Int) + 1) = (l0 : Int) := by rw [u64w _ (by omega) (by omega)]; omega
    have e9 : IntKind.u64.wrap ((low : Int) + 192) = (l9 : Int) := by rw [u64w _ (by omega) (by omega)]; omega
    have hEE : min top (low + 192) = E := by rw [hl9]; exact hE
    rw [hEE]
    have HLL := Lib.hid (And.intro hl0 (And.intro hl9 hE))
    have HH := Lib.hid (fun W (hb : Below w.heap.size w W) x => rhas_w (h.below hb) hL node x)
    have HC := Lib.hid (fun W (hb : Below w.heap.size w W) => (h.below hb).c1)
    have HLO := Lib.hid hlo
    have HLT0 := Lib.hid h.lt
    clear h hL hlo hl0 hl9 hE hEE h1 h2
    go_enter Tryd.func19, Tryd.ntmps19
    go_wp2_with (fail)
    go_loopw [7, 8] (fun vr ir wr => ∃ k : Nat, k ≤ E - low ∧ ir = .int .u64 ((l0 + k : Nat) : Int) ∧ Hid (wr.ownsRow w.heap.size 22 1 vr (rlackTo L low node k).length (u64s (rlackTo L low node k))) ∧ Hid (Below w.heap.size w wr)) (fun _ ir _ => l0 + 200 - (intOf ir).toNat)
    case atStart => exact ⟨0, Nat.zero_le _, rfl, Lib.hid (World.ownsRow_nil _ _ _ _), Lib.hid (Below.refl _ _)⟩
    case round =>
      obtain ⟨k, hk, rfl, HO, HB⟩ := hrel
      have c1 := HC.out wr HB.out
      by_cases hlt : k < E - low
      · obtain ⟨x, hx⟩ : ∃ x, l0 + k = x := ⟨_, rfl⟩
        obtain ⟨x', hx'⟩ : ∃ x', l0 + (k + 1) = x' := ⟨_, rfl⟩
        have d1 : decide (x ≤ top) = true := by have := HLL.out; simp; omega
        have d1' : decide ((x : Int) ≤ (top : Int)) = true := by have := HLL.out; simp; omega
        have d2 : decide (x ≤ l9) = true := by have := HLL.out; simp; omega
        have d2' : decide ((x : Int) ≤ (l9 : Int)) = true := by have := HLL.out; simp; omega
        have hx64 : x < 18446744073709551615 := by have := HLL.out; have := HLO.out; omega
        have ew : IntKind.u64.wrap ((x : Int) + 1) = (x' : Int) := by rw [u64w _ (by omega) (by omega)]; omega
        have hsuc := rlackTo_succ L low node k
        rw [show low + 1 + k = x by have := HLL.out; omega] at hsuc
        have HQ := Lib.hid (HH.out wr HB.out x)
        have hpl := rlackTo_len L low node k
        have hk2 : k ≤ 192 := by have := HLL.out; omega
        have hme : ((x : Int)).toNat = x := rfl
        have hme2 : ((x' : Int)).toNat = x' := rfl
        have hsz := HB.out.size
        have HX := Lib.hid (And.intro hx (And.intro hx' (And.intro hk2 hlt)))
        rw [hx]
        obtain ⟨l, hl⟩ : ∃ l, rlackTo L low node k = l := ⟨_, rfl⟩
        rw [hl] at HO hsuc hpl
        cases hb : hasL L node x with
        | true =>
          rw [hb] at HQ
          rw [hb, if_pos rfl, List.append_nil] at hsuc
          have HS := Lib.hid hsuc
          clear hsuc hb hx hx' hx64 hlt hl
          go_wp2_with (first
            | (go_at_call 27; (with_reducible refine HQ.out.mono ?_); rintro e w3 ⟨rfl, rfl⟩)
            | fail)
          go_roundw
          case rel => exact ⟨k + 1, by have := HX.out; omega, by rw [HX.out.2.1], by rw [HS.out]; exact HO, HB⟩
          case measure => have := HX.out; simp [intOf]; omega
        | false =>
          rw [hb] at HQ
          rw [hb, if_neg (by decide)] at hsuc
          have HS := Lib.hid hsuc
          have hl192 : l.length ≤ 192 := by omega
          clear hsuc hb hx hx' hx64 hlt hl hpl
          go_wp2_with (first
            | (go_at_call 27; (with_reducible refine HQ.out.mono ?_); rintro e w3 ⟨rfl, rfl⟩)
            | (at_builtin; refine wpL_app rfl _ _ _ _ rfl Qu.Elem64 rfl rfl (HO.out.alloc _) (Src.lit Tryd.underlying43 _ rfl (by intro u hu; simp at hu; subst hu; rfl)) (by unfold maxLen; omega) (by omega) (by simp; omega) ?_; intro v2 w2 hown2 hg2 hat2)
            | fail)
          go_roundw
          case rel =>
            refine ⟨k + 1, by have := HX.out; omega, by rw [HX.out.2.1], Lib.hid ?_, Lib.hid ((HB.out.alloc hsz _).grown hg2 (by simp; omega) (fun k e => (HO.out.lt k e).1))⟩
            rw [HS.out, List.length_append, u64s_app]
            exact hown2
          case measure => have := HX.out; simp [intOf]; omega
      · have hkE : k = E - low := by omega
        obtain ⟨x, hx⟩ : ∃ x, l0 + k = x := ⟨_, rfl⟩
        rw [hkE] at HO
        rw [hx]
        obtain ⟨A, c, rfl⟩ := ownsRow_form HO.out
        obtain ⟨l, hl⟩ : ∃ l, rlackTo L low node (E - low) = l := ⟨_, rfl⟩
        rw [hl] at HO ⊢
        have HL := Lib.hid hl
        by_cases ht : x ≤ top
        · have d1 : decide (x ≤ top) = true := by simpa using ht
          have d2 : decide (x ≤ l9) = false := by have := HLL.out; simp; omega
          have d2' : decide ((x : Int) ≤ (l9 : Int)) = false := by have := HLL.out; simp; omega
          clear hx hlt hk hkE hl
          go_wp2_with (fail)
          go_ret
          rw [HL.out]
          exact ⟨A, c, rfl, ownsRow_rd HO.out, HB.out⟩
        · have d1 : decide (x ≤ top) = false := by simpa using ht
          have d1' : decide ((x : Int) ≤ (top : Int)) = false := by simp; omega
          clear hx hlt hk hkE hl
          go_wp2_with (fail)
          go_ret
          rw [HL.out]
          exact ⟨A, c, rfl, ownsRow_rd HO.out, HB.out⟩
  · rw [if_neg hn]
    by_cases h1 : node < 0
    · have q1 : decide (node < 0) = true := by simpa using h1
      clear h hn
      go_enter Tryd.func19, Tryd.ntmps19
      go_wp2
      go_ret
      exact ⟨none, 0, rfl, ownsRow_rd (e := 22) (base := 0) (World.ownsRow_nil _ _ _ _), Below.refl _ _⟩
    · have q1 : decide (node < 0) = false := by simpa using h1
      have q2 : decide ((n : Int) ≤ node) = true := by simp; omega
      clear h hn
      go_enter Tryd.func19, Tryd.ntmps19
      go_wp2
      go_ret
      exact ⟨none, 0, rfl, ownsRow_rd (e := 22) (base := 0) (World.ownsRow_nil _ _ _ _), Below.refl _ _⟩

def rerr (n low : Nat) (node : Int) (x : Nat) : Int := if 0 ≤ node ∧ node < (n : Int) then (if x ≤ low then 52 else if low + 192 < x then 30 else 0) else 2
def rput (L : List (Int × Nat)) (n low : Nat) (node : Int) (x : Nat) : List (Int × Nat) := if rerr n low node x = 0 then L ++ [(node, x)] else L
/-- What the reference's Ack makes. -/
def RAck (w : World) (B r : Nat) (v : Value) (n low : Nat) (L : List (Int × Nat)) (node : Int) (x : Nat) (e : Ending) (w' : World) : Prop :=
  e = .returned (.int .i64 (rerr n low node x)) ∧ ∃ v', Rw w' B r v' n low (rput L n low node x) ∧ Keeps (fun i => i = r ∨ v.ownBlock = some i) w w' ∧ (v'.ownBlock = v.ownBlock ∨ ∀ q, v'.ownBlock = some q → w.heap.size ≤ q)
theorem E_ack : Elem Tryd.prog 23 31 (.agg #[.int .i64 0, .int .u64 0]) 2 16 := Elem.mk_ Tryd.underlying23 (by kernel_rfl) rfl (by decide)
set_option maxHeartbeats 4000000 in
theorem rack_any (h : Rw w B r v n low L) (hL : L.length ≤ 1000) (hlo : low ≤ 4611686018427387584) (node : Int) (x : Nat) (hx : x < 18446744073709551616) :
    Calls Tryd.prog 12 #[.pointer (some ⟨r, 0, none⟩), .int .i64 node, .int .u64 (x : Int)] w (RAck w B r v n low L node x) := by
  have c0 := h.c0
  have c1 := h.c1
  have HH := Lib.hid h
  have no : ∀ e, rerr n low node x = e → e ≠ 0 → Rw w B r v n low (rput L n low node x) := fun e he hne => by
    unfold rput
    rw [if_neg (by rw [he]; exact hne)]
    exact h
  unfold RAck
  by_cases h1 : node < 0
  · have he : rerr n low node x = 2 := by unfold rerr; rw [if_neg (by omega)]
    have NO := Lib.hid (no 2 he (by decide))
    rw [he]
    have q1 : decide (node < 0) = true := by simpa using h1
    clear h hL hlo no he hx h1
    go_enter Tryd.func12, Tryd.ntmps12
    go_wp2
    go_ret
    exact ⟨rfl, v, NO.out, Keeps.refl _ _, .inl rfl⟩
  · have q1 : decide (node < 0) = false := by simpa using h1
    by_cases h2 : (n : Int) ≤ node
    · have he : rerr n low node x = 2 := by unfold rerr; rw [if_neg (by omega)]
      have NO := Lib.hid (no 2 he (by decide))
      rw [he]
      have q2 : decide ((n : Int) ≤ node) = true := by simpa using h2
      clear h hL hlo no he hx h1 h2
      go_enter Tryd.func12, Tryd.ntmps12
      go_wp2
      go_ret
      exact ⟨rfl, v, NO.out, Keeps.refl _ _, .inl rfl⟩
    · have q2 : decide ((n : Int) ≤ node) = false := by simpa using h2
      by_cases h3 : x ≤ low
      · have he : rerr n low node x = 52 := by unfold rerr; rw [if_pos (by omega), if_pos h3]
        have NO := Lib.hid (no 52 he (by decide))
        rw [he]
        have q3 : decide (x ≤ low) = true := by simpa using h3
        have q3' : decide ((x : Int) ≤ (low : Int)) = true := by simp; omega
        clear h hL hlo no he hx h1 h2 h3
        go_enter Tryd.func12, Tryd.ntmps12
        go_wp2
        go_ret
        exact ⟨rfl, v, NO.out, Keeps.refl _ _, .inl rfl⟩
      · have q3 : decide (x ≤ low) = false := by simpa using h3
        have q3' : decide ((x : Int) ≤ (low : Int)) = false := by simp; omega
        obtain ⟨d, hd⟩ : ∃ d : Nat, low + d = x := ⟨x - low, by omega⟩
        have ew : IntKind.u64.wrap ((x : Int) - (low : Int)) = (d : Int) := by rw [u64w _ (by omega) (by omega)]; omega
        by_cases h4 : 192 < d
        · have he : rerr n low node x = 30 := by unfold rerr; rw [if_pos (by omega), if_neg h3, if_pos (by omega)]
          have NO := Lib.hid (no 30 he (by decide))
          rw [he]
          have q4 : decide (192 < d) = true := by simpa using h4
          have q4' : decide ((192 : Int) < (d : Int)) = true := by simp; omega
          clear h hL hlo no he hx h1 h2 h3 h4 hd
          go_enter Tryd.func12, Tryd.ntmps12
          go_wp2
          go_ret
          exact ⟨rfl, v, NO.out, Keeps.refl _ _, .inl rfl⟩
        · have he : rerr n low node x = 0 := by unfold rerr; rw [if_pos (by omega), if_neg h3, if_neg (by omega)]
          have hp : rput L n low node x = L ++ [(node, x)] := by unfold rput; rw [if_pos he]
          have q4 : decide (192 < d) = false := by simpa using h4
          have q4' : decide ((192 : Int) < (d : Int)) = false := by simp; omega
          rw [he, hp]
          have c2 := h.c2
          have hne : ∀ q, v.ownBlock = some q → q ≠ r := own_ne_row h.own h.row (by decide)
          have HNE := Lib.hid hne
          have HL := Lib.hid hL
          obtain ⟨A, c, rfl⟩ := h.form
          clear h hL hlo no he hp hx h1 h2 h3 h4 hd hne
          go_enter Tryd.func12, Tryd.ntmps12
          go_wp2_with (first
            | (at_builtin; refine wpL_app rfl _ _ _ _ rfl E_ack rfl rfl (HH.out.own.alloc _) (Src.lit (sz := 2) (n := 1) Tryd.underlying23 _ rfl (by intro u hu; simp at hu; rcases hu with rfl | rfl <;> rfl)) (by have := HL.out; unfold maxLen; omega) (by have := HL.out; omega) (by have := HH.out.lt; have := HH.out.lo; simp; omega) ?_; intro v2 w2 hown2 hg2 hat2
               obtain ⟨A2, cc2, rfl⟩ := ownsRow_form hown2
               have hr2 := row_far (row_below HH.out.row ((Below.refl _ _).alloc (Nat.le_refl _) _)) hg2 (fun e => HNE.out r e.symm rfl)
               have d2 := cell_of_row w2 r 2 _ _ _ hr2
               have f2 := frozen_of_row w2 r 2 _ _ hr2
               have HR2 := Lib.hid hr2
               have HO2 := Lib.hid hown2
               have HG2 := Lib.hid hg2
               have HA2 := Lib.hid hat2
               clear hr2 hown2 hg2 hat2)
            | fail)
          go_ret
          refine ⟨rfl, .slice A2 (L.length + 1) cc2, ⟨?_, ?_, HH.out.lo⟩, ?_, ?_⟩
          · rw [heap_setCell_same w2 r 2 _ _ _ HR2.out]; rfl
          · rw [List.length_append, rcells_app]
            refine (Keeps.set w2 r 2 _).own HO2.out (fun q hq e => ?_)
            rcases HA2.out with h | h
            · exact HNE.out q (h ▸ hq) e
            · rw [h] at hq
              have := Option.some.inj hq
              have := HH.out.lt
              simp at *
              omega
          · have k1 : Keeps (fun i => i = r ∨ Value.ownBlock (.slice A L.length c) = some i) w w2 := ((Keeps.refl _ _).alloc _).grown HG2.out (fun q hq => .inl (.inr hq))
            exact k1.trans (Keeps.set w2 r 2 _) (fun i hi => .inl (.inl hi))
          · rcases HA2.out with h | h
            · exact .inl h
            · refine .inr fun q hq => ?_
              rw [h] at hq
              cases hq
              simp
end
end Go.Proofs.YtjhakplaffgkpaaDoor

namespace Go.Proofs.YtjhakplaffgkpaaDoor
open Go.RowKit
set_option maxRecDepth 20000

structure Rel (t : Wv) (n low : Nat) (L : List (Int × Nat)) : Prop where
  nn : t.n = n
  lo : t.low = low
  has : ∀ x i, i < 64 → (t.who x).testBit i = (decide (i < n) && hasL L (i : Int) x)
section
variable {t : Wv} {n low : Nat} {L : List (Int × Nat)}
theorem Rel.err (h : Rel t n low L) (h7 : n ≤ 7) (node : Int) (x : Nat) : t.err node x = rerr n low node x := by
  unfold Wv.err rerr Wv.all
  rw [h.nn, h.lo, has_all n node h7]
  by_cases hn : 0 ≤ node ∧ node < (n : Int)
  · rw [if_pos (by simpa using hn), if_pos hn]
  · rw [if_neg (by simpa using hn), if_neg hn]
theorem Rel.ack (h : Rel t n low L) (h7 : n ≤ 7) (node : Int) (x : Nat) : Rel (t.ack node x) n low (rput L n low node x) := by
  refine ⟨(t.ack_low node x).2.trans h.nn, (t.ack_low node x).1.trans h.lo, fun y i hi => ?_⟩
  rw [t.ack_bit node x y i hi, h.has y i hi, h.err h7]
  unfold rput
  by_cases he : rerr n low node x = 0
  · rw [if_pos he, hasL_snoc]
    have hr : 0 ≤ node ∧ node < (n : Int) := by
      unfold rerr at he
      split at he
      · assumption
      · cases he
    by_cases hb : node = (i : Int) ∧ x = y
    · obtain ⟨h1, h2⟩ := hb
      have : i < n := by omega
      rw [h1, h2] at he
      simp [he, h1, h2, this]
    · have e1 : (decide (y = x) && decide (node = (i : Int))) = false := by
        cases hd : (decide (y = x) && decide (node = (i : Int))) with
        | false => rfl
        | true => simp at hd; exact absurd ⟨hd.2, hd.1.symm⟩ hb
      have e2 : (decide (node = (i : Int)) && decide (x = y)) = false := by
        cases hd : (decide (node = (i : Int)) && decide (x = y)) with
        | false => rfl
        | true => simp at hd; exact absurd hd hb
      rw [e1, e2]
      simp
  · rw [if_neg he]
    simp [he]
theorem Rel.who (h : Rel t n low L) (ok : t.Ok) (h7 : n ≤ 7) (x : Nat) : t.who x = whoTo L x n := by
  refine nat_bits (ok.who_lt x) (Nat.lt_of_lt_of_le (whoTo_lt L x n) (Nat.le_trans (Nat.pow_le_pow_right (n := 2) (by decide) h7) (by decide))) fun i hi => ?_
  rw [h.has x i hi, whoTo_bit]
theorem Rel.com (h : Rel t n low L) (ok : t.Ok) (h7 : n ≤ 7) : t.com = comS (rS L n) low 192 := by
  rw [t.com_eq, h.lo]
  unfold Wv.all
  rw [h.nn, show (fun x => Qu.majB (t.who x) (2 ^ n - 1)) = rS L n from funext fun x => by unfold rS; rw [h.who ok h7]]
theorem Rel.lacks (h : Rel t n low L) (h7 : n ≤ 7) (node : Int) (top : Nat) : t.lacks node top = rlacks L n low node top := by
  unfold Wv.lacks rlacks Wv.all
  rw [h.nn, h.lo, has_all n node h7]
  by_cases hn : 0 ≤ node ∧ node < (n : Int)
  · rw [if_pos (by simpa using hn), if_pos hn]
    obtain ⟨k, rfl⟩ : ∃ k : Nat, node = (k : Int) := ⟨node.toNat, by omega⟩
    unfold Wv.lackTo rlackTo
    rw [h.lo]
    refine congrArg (fun p => List.filter p _) (funext fun x => ?_)
    have hk : k < n := by omega
    rw [Qu.inB_nat _ _ (by omega), h.has x k (by omega)]
    simp [hk]
  · rw [if_neg (by simpa using hn), if_neg hn]
theorem Rel.start (n low : Nat) : Rel (W0 n low) n low [] := ⟨rfl, rfl, fun x i hi => by
  have : (W0 n low).who x = 0 := rfl
  rw [this]
  simp [hasL]⟩
theorem rput_len (L : List (Int × Nat)) (n low : Nat) (node : Int) (x : Nat) : (rput L n low node x).length ≤ L.length + 1 := by
  unfold rput
  split
  · simp
  · omega
end
/-- Between two rounds of the law: a window beside the reference's. -/
structure PW (w wr : World) (g b m r : Nat) (v : Value) (t : Wv) (n low : Nat) (L : List (Int × Nat)) : Prop where
  win : Wn wr g b m t
  ref : Rw wr w.heap.size r v n low L
  rel : Rel t n low L
  bel : Below w.heap.size w wr
  lo : w.heap.size ≤ b
section
variable {w wr w' : World} {g b m r n low : Nat} {v : Value} {t : Wv} {L : List (Int × Nat)}
theorem PW.below (h : PW w wr g b m r v t n low L) (hb : Below wr.heap.size wr w') : PW w w' g b m r v t n low L :=
  ⟨h.win.below hb, h.ref.below hb, h.rel, h.bel.trans (hb.mono h.bel.size), h.lo⟩
theorem PW.refb (h : PW w wr g b m r v t n low L) : r ≠ b := by
  intro e
  obtain ⟨es, cl, hb⟩ := h.win.map.obj
  have := h.ref.row
  rw [e, hb] at this
  cases this
theorem PW.ownb (h : PW w wr g b m r v t n low L) : ∀ q, v.ownBlock = some q → q ≠ b := by
  obtain ⟨es, cl, hb⟩ := h.win.map.obj
  exact own_ne_map h.ref.own hb
/-- An Ack of the window. -/
theorem PW.prog (h : PW w wr g b m r v t n low L) {t' : Wv} {m' : Nat} (hw : Wn w' g b m' t') (hk : Keeps (fun i => i = b) wr w') : Wn w' g b m' t' ∧ Rw w' w.heap.size r v n low L ∧ Below w.heap.size w w' :=
  ⟨hw, h.ref.keeps hk h.refb h.ownb, h.bel.trans (hk.below h.bel.size (fun i hi => by have := h.lo; omega))⟩
end
end Go.Proofs.YtjhakplaffgkpaaDoor

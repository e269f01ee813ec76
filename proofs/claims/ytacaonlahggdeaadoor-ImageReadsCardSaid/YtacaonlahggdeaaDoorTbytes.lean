/- A table's bytes, both ways. -/
import Derived.Test.YtacaonlahggdeaaDoorPlain
import Derived.Test.YtacaonlahggdeaaDoorRefb
namespace Go.Proofs.YtacaonlahggdeaaDoor
open Go.RowKit
set_option maxRecDepth 20000

def encT (T : List Cl) : List UInt8 := T.flatMap fun p => le 8 p.1 ++ le 2 p.2
theorem encT_len (T : List Cl) : (encT T).length = 10 * T.length := by
  induction T with
  | nil => rfl
  | cons p T ih =>
    have e : encT (p :: T) = (le 8 p.1 ++ le 2 p.2) ++ encT T := rfl
    rw [e, List.length_append, List.length_append, le_len, le_len, ih, List.length_cons]
    omega
theorem encT_take {T : List Cl} {i : Nat} {p : Cl} (h : T[i]? = some p) : encT (T.take (i + 1)) = encT (T.take i) ++ le 8 p.1 ++ le 2 p.2 := by
  obtain ⟨hi, rfl⟩ := List.getElem?_eq_some_iff.1 h
  unfold encT
  rw [List.take_succ_eq_append_getElem hi, List.flatMap_append]
  simp
theorem puts_one' (k x : Nat) : puts k [x] = le k x := by simp [puts]
theorem TabT.index {P : Program} {ty ct : TypeId} (h : TabT P ty ct) {T : List Cl} {i : Nat} {p : Cl} (hp : T[i]? = some p) (hi : i < 8) (w : World) : (Instr.index ty (tbv T) (.int .i64 (i : Int))).run P w = .ok (clv p) w := by
  have hs : (Go.sizeOf ct).run P w = .ok 2 w := run_size h.csize
  have hpart := h.partCl (w := w) T i p hp
  have hlt : (0 : Int) ≤ (i : Int) ∧ (i : Int) < ((8 : Nat) : Int) := by omega
  unfold tbv
  simp only [Instr.index, asIntOf, Sem.run_bind, Sem.run_pure, Result.andThen_ok, run_underlying h.und, if_pos hlt, hs, Int.toNat_natCast, hpart]

theorem lit1 (X : World) (t n : Nat) (e : TypeId) (hn : X.heap.size = n) : Rd (X.alloc (.cells #[.int .u64 (t : Int)] e)) (X.alloc (.cells #[.int .u64 (t : Int)] e)).heap.size 1 (some ⟨n, 0, none⟩) 1 1 (u64s [t]) := by
  subst hn
  exact Rd.lit X #[.int .u64 (t : Int)] _ rfl (by unfold maxLen; omega) (by simp)
set_option maxHeartbeats 2000000 in
theorem tbytes_any (T : List Cl) (w : World) (hT : Tok T) :
    Calls Tryd.prog 22 #[tbv T] w fun e w' => ∃ v, e = .returned v ∧ w'.ownsRow w.heap.size 5 1 v 80 (u8s (encT T)) ∧ Below w.heap.size w w' := by
  have HT := Lib.hid hT.1
  have HK := Lib.hid hT.2
  clear hT
  go_enter Tryd.func22, Tryd.ntmps22
  go_wp2_with (first
    | (refine wpL_tbox rfl (.tmp 0) rfl rfl ?_; intro W0 b1 hN; obtain ⟨hb1, hr1, hl1, hz1⟩ := hN)
    | (refine tabA.wpLoad (o := ⟨some 6, _, _, _, _, _⟩) rfl (.tmp 1) rfl rfl hr1.out HT.out ?_)
    | fail)
  go_loopw [3, 7] (fun vr ir wr => ∃ i : Nat, i ≤ 8 ∧ ir = .int .i64 (i : Int) ∧ Hid (wr.ownsRow w.heap.size 5 1 vr (10 * i) (u8s (encT (T.take i)))) ∧ Hid (Below w.heap.size w wr)) (fun _ ir _ => 8 - (intOf ir).toNat)
  case atStart => exact ⟨0, Nat.zero_le _, rfl, Lib.hid (World.ownsRow_nil _ _ _ _), Lib.hid hl1⟩
  case round =>
    obtain ⟨i, hi, rfl, RO, RB⟩ := hrel
    obtain ⟨A, c, rfl⟩ := ownsRow_form RO.out
    by_cases hlt : i < 8
    · obtain ⟨p, hp⟩ : ∃ p, T[i]? = some p := ⟨_, List.getElem?_eq_getElem (by have := HT.out; omega)⟩
      have hix := tabA.index (T := T) hp hlt
      have hok := HK.out p (List.mem_of_getElem? hp)
      have hw16 : IntKind.u64.wrap (p.2 : Int) = (p.2 : Int) := u64w _ (by omega) (by have := hok.2; omega)
      have HE := Lib.hid (encT_take hp)
      have hsz := RB.out.size
      obtain ⟨t, b⟩ := p
      unfold clv at hix
      dsimp only at hix hw16 HE
      clear hp hok
      have hle : w.heap.size ≤ wr.heap.size := hsz
      have hrd0 := (ownsRow_rd RO.out).below (below2 wr (.cells #[.int .u64 (t : Int), .int .u16 (b : Int)] 27) (.cells #[.int .u64 (t : Int)] 22)) |>.more (B' := ((wr.alloc (.cells #[.int .u64 (t : Int), .int .u16 (b : Int)] 27)).alloc (.cells #[.int .u64 (t : Int)] 22)).heap.size) (by simp; omega)
      have hl0 := lit1 (wr.alloc (.cells #[.int .u64 (t : Int), .int .u16 (b : Int)] 27)) t (wr.heap.size + 1) 22 (by simp)
      have HP0 := Lib.hid (put_good _ _ _ _ 1 1 (encT (T.take i)) [t] 8 _ hrd0 hl0 (by omega) (by omega) (by omega))
      clear hrd0 hl0
      go_wp2_with (fail)
      refine HP0.out.mono ?_
      rintro e w1 ⟨v1, rfl, hown1, hb1w⟩
      rw [puts_one', show 10 * i + 1 * 8 = 10 * i + 8 from rfl] at hown1
      obtain ⟨A1, c1, rfl⟩ := ownsRow_form hown1
      have k1 : w1.cell? ⟨wr.heap.size, 1, none⟩ = some (.int .u16 (b : Int)) := by
        have := cell_of_row ((wr.alloc (.cells #[.int .u64 (t : Int), .int .u16 (b : Int)] 27)).alloc (.cells #[.int .u64 (t : Int)] 22)) wr.heap.size 1 _ _ _ (row_old _ (heap_alloc_new wr _))
        exact kept hb1w this (by simp; omega)
      have hb01 : Below wr.heap.size wr w1 := (below2 wr _ _).trans (hb1w.mono (by simp; omega))
      have hrd1 := (ownsRow_rd hown1).below (below1 w1 (.cells #[.int .u64 (b : Int)] 22)) |>.more (B' := (w1.alloc (.cells #[.int .u64 (b : Int)] 22)).heap.size) (by simp)
      have hl1 := lit1 w1 b w1.heap.size 22 rfl
      have HP1 := Lib.hid (put_good _ _ _ _ 1 1 (encT (T.take i) ++ le 8 t) [b] 2 _ hrd1 hl1 (by omega) (by omega) (by omega))
      have HB1 := Lib.hid hb01
      clear hown1 hb1w hb01 hrd1 hl1 HP0
      go_wp2_with (fail)
      refine HP1.out.mono ?_
      rintro e w2 ⟨v2, rfl, hown2, hb2w⟩
      rw [puts_one', show 10 * i + 8 + 1 * 2 = 10 * (i + 1) by omega, ← HE.out] at hown2
      have hb02 : Below wr.heap.size wr w2 := HB1.out.trans ((unal hb2w).mono HB1.out.size)
      have HO2 := Lib.hid (ownsRow_low hown2 (base' := w.heap.size) (by have := HB1.out.size; simp; omega))
      have HB2 := Lib.hid (RB.out.trans (hb02.mono hsz))
      clear hown2 hb2w hb02 HP1
      go_wp2_with (fail)
      go_roundw
      case rel => exact ⟨i + 1, by omega, by go_num, HO2, HB2⟩
      case measure => simp [intOf]; omega
    · obtain rfl : i = 8 := by omega
      have hown := RO.out
      rw [List.take_of_length_le (by rw [HT.out]; exact Nat.le_refl _)] at hown
      have HO := Lib.hid hown
      clear hown RO
      go_wp2
      go_ret
      exact ⟨_, rfl, HO.out, RB.out⟩

end Go.Proofs.YtacaonlahggdeaaDoor

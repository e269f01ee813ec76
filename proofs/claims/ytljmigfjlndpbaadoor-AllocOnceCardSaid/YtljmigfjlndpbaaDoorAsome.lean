/- Contracts of package alloc: Some. -/
import Derived.Test.YtljmigfjlndpbaaDoorAtake
namespace Go.Proofs.YtljmigfjlndpbaaDoor
open Go.RowKit

/-- The errors of Some, and how many come out of it. -/
def Av.someE (a : Av) (c : Int) : Int := if c < 0 then 2 else if (a.free : Int) < c then 31 else 0
def Av.someN (a : Av) (c : Int) : Nat := if c < 0 then 0 else if (a.free : Int) < c then 0 else c.toNat
section
variable {w w' : World} {g R k : Nat} {a : Av}
def Somed (w : World) (g R k : Nat) (a : Av) (c : Int) (e : Ending) (w' : World) : Prop := ∃ v, e = .returned (.tuple #[v, .int .i64 (a.someE c)]) ∧ w'.ownsRow w.heap.size 3 1 v (a.someN c) (is (Av.some (a.someN c) a).1) ∧ Alw w' g R k (Av.some (a.someN c) a).2 ∧ w.grownBy w' (some R)
theorem madeCells_is (n : Nat) : (madeCells (Value.cells (.int .i64 0)) (n * 1)).toList = is (List.replicate n 0) := by
  unfold is
  rw [List.map_replicate]
  simp [madeCells, Value.cells, Nat.mod_one, List.map_const']
theorem is_set {l : List Int} {r : List Int} {x : Int} (i : Nat) (h : l.length = i) (hr : r ≠ []) : (is (l ++ r)).set i (.int .i64 x) = is (l ++ [x] ++ r.tail) := by
  subst h
  cases r with
  | nil => exact absurd rfl hr
  | cons y r => simp [is]
set_option maxHeartbeats 1000000 in
theorem asome_any (h : Alw w g R k a) (hT : Tab w) (c : Int) (hc1 : -9223372036854775808 ≤ c) (hc2 : c ≤ 9223372036854775807) :
    Calls Tryd.prog 11 #[.pointer (some ⟨g, 0, none⟩), .int .i64 c] w (Somed w g R k a c) := by
  have HF := Lib.hid (afree_any h)
  have HB := Lib.hid (fun (W : World) (hb : Below w.heap.size w W) => h.below hb)
  unfold Somed Av.someE Av.someN
  have hfr : a.free ≤ 102400 := by
    have h1 := popAll_le a.ws
    have h2 := h.ok.len
    have h3 := h.ok.small
    unfold Av.free
    omega
  by_cases hneg : c < 0
  · simp only [if_pos hneg]
    have q1 : decide (c < 0) = true := by simpa using hneg
    have HH := Lib.hid h
    clear h hT hfr
    go_enter Tryd.func11, Tryd.ntmps11
    go_wp2_with (fail)
    go_ret2
    exact ⟨_, rfl, World.ownsRow_nil _ _ _ _, HH.out, grown_refl _ _⟩
  · simp only [if_neg hneg]
    have q1 : decide (c < 0) = false := by simpa using hneg
    by_cases hm : (a.free : Int) < c
    · simp only [if_pos hm]
      have q2 : decide ((a.free : Int) < c) = true := by simpa using hm
      clear h hT
      generalize a.free = F at *
      go_enter Tryd.func11, Tryd.ntmps11
      go_wp2_with (first
        | (go_at_call 19; refine HF.out.mono ?_; rintro e w1 ⟨rfl, hb1⟩)
        | fail)
      go_ret2
      exact ⟨_, rfl, World.ownsRow_nil _ _ _ _, HB.out _ hb1, grown_of_below hb1⟩
    · simp only [if_neg hm]
      have q2 : decide ((a.free : Int) < c) = false := by simpa using hm
      obtain ⟨n, rfl⟩ : ∃ n : Nat, c = (n : Int) := ⟨c.toNat, by omega⟩
      have hn : n ≤ 102400 := by omega
      have q3 : decide (a.free < n) = false := by simp; omega
      have q4 : ¬ a.free < n := by omega
      rw [Int.toNat_natCast]
      have HT := Lib.hid hT
      have hpos := h.pos
      have hlt := h.lt
      have HLT := Lib.hid hlt
      have HPOS := Lib.hid hpos
      clear h hfr hneg hT hm hc1 hc2 hpos hlt
      generalize a.free = F at *
      go_enter Tryd.func11, Tryd.ntmps11
      go_wp2_with (first
        | (go_at_call 19; refine HF.out.mono ?_; rintro e w1 ⟨rfl, hb1⟩; have HB1 := Lib.hid hb1; clear hb1)
        | (refine wpL_make rfl (.tmp 19) (.tmp 19) _ rfl int_elem (base := w1.heap.size) n rfl rfl rfl rfl (by omega) (by unfold maxLen; omega) (Nat.le_refl _) ?_; intro w2 hown2 hg2)
        | fail)
      rw [madeCells_is] at hown2
      obtain ⟨hrow2, hbase⟩ := ownsRow_row hown2
      have hb2 : Below w.heap.size w w2 := HB1.out.trans ((below_of_grown hg2 (fun q e => by cases e)).mono HB1.out.size)
      have hs1 := HB1.out.size
      obtain ⟨L, hL⟩ : ∃ L, L = w1.heap.size := ⟨_, rfl⟩
      rw [← hL] at hrow2 ⊢
      have HLL := Lib.hid (show w.heap.size ≤ L by omega)
      clear hown2 hg2 hbase hs1 hL HF
      go_loopw [23] (fun ir wr => ∃ i : Nat, i ≤ n ∧ ir = .int .i64 (i : Int) ∧ Hid (wr.heap[L]? = some (.cells (is ((Av.some i a).1 ++ List.replicate (n - i) 0)).toArray 3 (0, 0))) ∧ Hid (Alw wr g R k (Av.some i a).2) ∧ Hid (w.grownBy wr (some R))) (fun ir _ => n - (intOf ir).toNat)
      case atStart => exact ⟨0, Nat.zero_le _, rfl, Lib.hid hrow2, Lib.hid (HB.out _ hb2), Lib.hid (grown_of_below hb2)⟩
      case round =>
        obtain ⟨i, hi, rfl, RR, RA, RG⟩ := hrel
        by_cases hlt : i < n
        · have HTK := Lib.hid (atake_any RA.out (HT.out.grown RG.out HPOS.out.2))
          have HN1 := Lib.hid (show L ≠ g by have := HLT.out; have := HLL.out; omega)
          have HN2 := Lib.hid (show L ≠ R by have := HLT.out; have := HLL.out; omega)
          go_wp2_with (first
            | (go_at_call 9; refine HTK.out.mono ?_; rintro e w3 ⟨rfl, hA3, hg3⟩;
               have hr3 := row_far RR.out hg3 (fun e => HN2.out (by injection e));
               have hlen := is_len ((Av.some i a).1 ++ List.replicate (n - i) 0);
               rw [List.length_append, List.length_replicate, Av.some_len] at hlen;
               have hcl := cell_of_row w3 L i _ _ _ hr3;
               have hfz := frozen_of_row w3 L i _ _ hr3;
               obtain ⟨u0, hu0⟩ : ∃ u0, w3.cell? ⟨L, i, none⟩ = some u0 := by (rw [hcl]; exact ⟨_, by rw [List.getElem?_toArray]; exact List.getElem?_eq_getElem (by omega)⟩);
               have HR3 := Lib.hid hr3; have HA3 := Lib.hid hA3; have HG3 := Lib.hid hg3; clear hr3 hA3 hg3 hlen hcl)
            | fail)
          go_roundw
          case rel =>
            refine ⟨i + 1, by omega, by go_num, Lib.hid ?_, Lib.hid ?_, Lib.hid ?_⟩
            · rw [heap_setCell_same _ L i _ _ _ HR3.out]
              congr 2
              rw [List.setIfInBounds_toArray, is_set i (Av.some_len i a) (by rw [Ne, List.replicate_eq_nil_iff]; omega), List.tail_replicate]
              rfl
            · exact HA3.out.far (setCell_by (p := ⟨L, i, none⟩) (grown_refl _ _) rfl _) HN1.out HN2.out
            · exact grownBy_trans (grownBy_trans RG.out HG3.out (.inl rfl)) (setCell_by (p := ⟨L, i, none⟩) (grown_refl _ (some L)) rfl _) (.inr fun q e => by injection e with e; rw [← e]; exact HLL.out)
          case measure => simp [intOf]; omega
        · obtain rfl : i = n := by omega
          go_wp2
          go_ret2
          have hr := RR.out
          rw [Nat.sub_self, List.replicate_zero, List.append_nil] at hr
          exact ⟨_, rfl, ⟨by rw [is_len, Av.some_len, Nat.mul_one], .inr ⟨L, i, _, rfl, HLL.out, hr, Nat.le_refl _, by unfold maxLen; omega, by simp [is_len, Av.some_len], by first | rw [List.toList_toArray, List.take_of_length_le (by rw [is_len, Av.some_len]; omega)] | (rw [List.take_of_length_le]; rw [List.length_map])⟩⟩, RA.out, RG.out⟩
end
end Go.Proofs.YtljmigfjlndpbaaDoor

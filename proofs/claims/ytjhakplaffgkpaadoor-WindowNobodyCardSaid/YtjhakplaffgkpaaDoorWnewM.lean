/- New and Lacks of a window. -/
import Derived.Test.YtjhakplaffgkpaaDoorWackM
import Derived.Test.YtjhakplaffgkpaaDoorQtM
namespace Go.Proofs.YtjhakplaffgkpaaDoor
open Go.RowKit
set_option maxRecDepth 20000

theorem with_up : ∀ k : Fin 7, Qu.with1 (2 ^ k.val - 1) (k.val : Int) = 2 ^ (k.val + 1) - 1 := by decide
def W0 (n low : Nat) : Wv := ⟨n, low, fun _ => none⟩
/-- A window in which nobody has anything. -/
def WNew (w : World) (n low : Nat) (e : Ending) (w' : World) : Prop := ∃ g b, e = .returned (.pointer (some ⟨g, 0, none⟩)) ∧ w.heap.size ≤ g ∧ w.heap.size ≤ b ∧ Wn w' g b 0 (W0 n low) ∧ Below w.heap.size w w'
theorem new_none (n : Int) (low : Nat) (w : World) (h : n < 1 ∨ 7 < n ∨ 4611686018427387584 < low) : Calls Tryd.prog 8 #[.int .i64 n, .int .u64 (low : Int)] w fun e w' => e = .returned (.pointer none) ∧ w = w' := by
  by_cases h1 : n < 1
  · have q1 : decide (n < 1) = true := by simpa using h1
    clear h
    go_enter Tryd.func8, Tryd.ntmps8
    go_wp2
    go_ret
    exact ⟨rfl, rfl⟩
  · have q1 : decide (n < 1) = false := by simpa using h1
    by_cases h2 : 7 < n
    · have q2 : decide (7 < n) = true := by simpa using h2
      clear h
      go_enter Tryd.func8, Tryd.ntmps8
      go_wp2
      go_ret
      exact ⟨rfl, rfl⟩
    · have q2 : decide (7 < n) = false := by simpa using h2
      have h3 : 4611686018427387584 < low := by omega
      have q3 : decide ((4611686018427387584 : Int) < (low : Int)) = true := by simp; omega
      clear h h3
      go_enter Tryd.func8, Tryd.ntmps8
      go_wp2
      go_ret
      exact ⟨rfl, rfl⟩
/-- Between two rounds of New: k nodes there are. -/
structure NJ (w : World) (low k : Nat) (W : World) : Prop where
  row : W.heap[w.heap.size + 1]? = some (.cells #[.int .u64 ((2 ^ k - 1 : Nat) : Int), .int .u64 (low : Int), .map (some w.heap.size)] 52 (0, 0))
  map : W.heap[w.heap.size]? = some (.map #[] 0)
  bel : Below w.heap.size w W
set_option maxHeartbeats 2000000 in
theorem new_any (n low : Nat) (w : World) (h1 : 1 ≤ n) (h7 : n ≤ 7) (hl : low ≤ 4611686018427387584) : Calls Tryd.prog 8 #[.int .i64 (n : Int), .int .u64 (low : Int)] w (WNew w n low) := by
  have q1 : decide ((n : Int) < 1) = false := by simp; omega
  have q2 : decide (7 < (n : Int)) = false := by simp; omega
  have q3 : decide ((4611686018427387584 : Int) < (low : Int)) = false := by simp; omega
  have q1' : decide (n < 1) = false := by simp; omega
  have q2' : decide (7 < n) = false := by simp; omega
  have q3' : decide (4611686018427387584 < low) = false := by simp; omega
  have q4 : ¬ n < 1 := by omega
  have q5 : ¬ 7 < n := by omega
  have q6 : ¬ 4611686018427387584 < low := by omega
  have HN := Lib.hid (And.intro h1 h7)
  have HL := Lib.hid hl
  clear h1 h7 hl
  have hmm := @run_makeMap Tryd.prog
  go_enter Tryd.func8, Tryd.ntmps8
  go_wp2_with (fail)
  have hN0 : NJ w low 0 ((w.alloc (.map #[] 0)).alloc (.cells #[.int .u64 0, .int .u64 (low : Int), .map (some w.heap.size)] 52)) := by
    refine ⟨?_, ?_, ((Below.refl _ _).alloc (Nat.le_refl _) _).alloc (by simp) _⟩
    · have := heap_alloc_new (w.alloc (.map #[] 0)) (.cells #[.int .u64 0, .int .u64 (low : Int), .map (some w.heap.size)] 52)
      simpa using this
    · exact (Below.heap_alloc _ _ _ (by simp)).trans (heap_alloc_new w _)
  have HN0 := Lib.hid hN0
  clear hN0
  generalize (w.alloc (.map #[] 0)).alloc (.cells #[.int .u64 0, .int .u64 (low : Int), .map (some w.heap.size)] 52) = W at *
  go_loopw [22] (fun ir wr => ∃ k : Nat, k ≤ n ∧ ir = .int .i64 (k : Int) ∧ Hid (NJ w low k wr)) (fun ir _ => n - (intOf ir).toNat)
  case atStart => exact ⟨0, Nat.zero_le _, rfl, HN0⟩
  case round =>
    obtain ⟨k, hk, rfl, HJ⟩ := hrel
    by_cases hlt : k < n
    · have d1 : decide ((k : Int) < (n : Int)) = true := by simp; omega
      have c0 : wr.cell? ⟨w.heap.size + 1, 0, none⟩ = some (.int .u64 ((2 ^ k - 1 : Nat) : Int)) := cell_of_row wr _ 0 _ _ _ HJ.out.row
      have hk7 : k < 7 := by have := HN.out; omega
      have hup := with_up ⟨k, hk7⟩
      dsimp only at hup
      have HUP := Lib.hid hup
      have hpk : 2 ^ k - 1 < 18446744073709551616 := Nat.lt_trans (all_lt k (by omega)) (by decide)
      have hbB : Below wr.heap.size wr (wr.alloc (.cells #[.int .i64 (k : Int)] 3)) := (Below.refl _ _).alloc (Nat.le_refl _) _
      have HW := Lib.hid (Qu.with_any (2 ^ k - 1) hpk (lit_is (w := wr) (k : Int) rfl) (by decide))
      rw [show Qu.withN (2 ^ k - 1) [(k : Int)] = 2 ^ (k + 1) - 1 from hup] at HW
      have hr1 := row_below HJ.out.row hbB
      have f1 := frozen_of_row _ _ 0 _ _ hr1
      have c1 : (wr.alloc (.cells #[.int .i64 (k : Int)] 3)).cell? ⟨w.heap.size + 1, 0, none⟩ = some (.int .u64 ((2 ^ k - 1 : Nat) : Int)) := cell_of_row _ _ 0 _ _ _ hr1
      have hj1 : NJ w low k (wr.alloc (.cells #[.int .i64 (k : Int)] 3)) := ⟨hr1, row_below HJ.out.map hbB, HJ.out.bel.trans (hbB.mono HJ.out.bel.size)⟩
      have HJ1 := Lib.hid hj1
      have hk2 : (k : Int) ≤ 100 := by omega
      clear hj1 hr1 hbB hup hpk hk7
      generalize 2 ^ k - 1 = p at *
      obtain ⟨p', hp'⟩ : ∃ p', 2 ^ (k + 1) - 1 = p' := ⟨_, rfl⟩
      rw [hp'] at HUP HW
      have HP := Lib.hid hp'
      clear hp'
      go_wp2_with (first
        | (go_at_call 23; (with_reducible refine HW.out.mono ?_); rintro e w3 ⟨rfl, rfl⟩)
        | fail)
      go_roundw
      case rel =>
        refine ⟨k + 1, by omega, by go_num, Lib.hid ⟨?_, ?_, ?_⟩⟩
        · rw [heap_setCell_same _ _ 0 _ _ _ HJ1.out.row, HP.out, ← HUP.out]
          rfl
        · rw [Below.heap_setCell _ _ _ _ (by simp)]
          exact HJ1.out.map
        · exact HJ1.out.bel.setCell (by simp) _
      case measure => simp [intOf]; omega
    · obtain rfl : k = n := by omega
      go_wp2
      go_ret
      exact ⟨w.heap.size + 1, w.heap.size, rfl, by omega, Nat.le_refl _, ⟨HJ.out.row, (mapW_made w).same (HJ.out.map.trans (heap_alloc_new w _).symm), ⟨HN.out.1, HN.out.2, HL.out, fun x s h => by cases h⟩⟩, HJ.out.bel⟩

/-- What a node lacks, of the first k indices above low. -/
def Wv.lackTo (t : Wv) (node : Int) (k : Nat) : List Nat := (List.range' (t.low + 1) k).filter fun x => !Qu.inB (t.who x) node
theorem Wv.lackTo_succ (t : Wv) (node : Int) (k : Nat) : t.lackTo node (k + 1) = t.lackTo node k ++ if Qu.inB (t.who (t.low + 1 + k)) node = true then [] else [t.low + 1 + k] := by
  unfold Wv.lackTo
  rw [List.range'_concat, List.filter_append, Nat.one_mul]
  congr 1
  cases h : Qu.inB (t.who (t.low + 1 + k)) node <;> simp [h]
theorem Wv.lackTo_len (t : Wv) (node : Int) (k : Nat) : (t.lackTo node k).length ≤ k := by
  unfold Wv.lackTo
  exact Nat.le_trans (List.length_filter_le _ _) (by simp)
def Wv.lacks (t : Wv) (node : Int) (top : Nat) : List Nat := if Qu.inB t.all node = true then t.lackTo node (min top (t.low + 192) - t.low) else []
/-- What tells numbers. -/
def TellsW (w : World) (l : List Nat) (e : Ending) (w' : World) : Prop := ∃ A c, e = .returned (.slice A l.length c) ∧ Rd w' w'.heap.size 1 A l.length c (u64s l) ∧ Below w.heap.size w w'
theorem lacks_nil (node x : Int) (w : World) : Calls Tryd.prog 18 #[.pointer none, .int .i64 node, .int .u64 x] w fun e w' => e = .returned (.slice none 0 0) ∧ w = w' := by
  go_enter Tryd.func18, Tryd.ntmps18
  go_wp2
  go_ret
  exact ⟨rfl, rfl⟩
theorem u64s_app (l k : List Nat) : u64s (l ++ k) = u64s l ++ u64s k := by simp [u64s]
set_option maxHeartbeats 4000000 in
theorem lacks_any {w : World} {g b m : Nat} {t : Wv} (h : Wn w g b m t) (node : Int) (top : Nat) :
    Calls Tryd.prog 18 #[.pointer (some ⟨g, 0, none⟩), .int .i64 node, .int .u64 (top : Int)] w (TellsW w (t.lacks node top)) := by
  have HA := Lib.hid (fun W => Qu.has_any t.all node W h.ok.all_lt)
  have c0 := h.c0
  have HH := Lib.hid h
  unfold Wv.lacks
  cases hb : Qu.inB t.all node with
  | false =>
    rw [hb] at HA
    clear h hb
    go_enter Tryd.func18, Tryd.ntmps18
    go_wp2_with (first
      | (go_at_call 25; (with_reducible refine (HA.out _).mono ?_); rintro e w3 ⟨rfl, rfl⟩)
      | fail)
    go_ret
    exact ⟨none, 0, rfl, ownsRow_rd (e := 22) (base := 0) (World.ownsRow_nil _ _ _ _), Below.refl _ _⟩
  | true =>
    rw [hb] at HA
    rw [if_pos rfl]
    have c1 := h.c1
    have hlo := h.ok.lo
    have HLO := Lib.hid hlo
    obtain ⟨L, hL⟩ : ∃ L, t.low + 1 = L := ⟨_, rfl⟩
    obtain ⟨T, hT⟩ : ∃ T, t.low + 192 = T := ⟨_, rfl⟩
    obtain ⟨E, hE⟩ : ∃ E, min top T = E := ⟨_, rfl⟩
    have e0 : IntKind.u64.wrap ((t.low : Int) + 1) = (L : Int) := by rw [Qu.u64w _ (by omega) (by omega)]; omega
    have e1 : max (top : Int) (T : Int) = max (top : Int) (T : Int) := rfl
    have m1 : min (top : Int) (T : Int) = (E : Int) := by omega
    have m2 : (if (top : Int) < (T : Int) then (top : Int) else (T : Int)) = (E : Int) := by split <;> omega
    have m3 : (if (T : Int) < (top : Int) then (T : Int) else (top : Int)) = (E : Int) := by split <;> omega
    have hEE : min top (t.low + 192) = E := by rw [hT]; exact hE
    rw [hEE]
    have hEb : E ≤ t.low + 192 := by omega
    have HT := Lib.hid (fun W (hb : Below w.heap.size w W) => by have := wtop_any (HH.out.below hb); rw [hT] at this; exact this)
    have HL := Lib.hid hL
    have HE := Lib.hid hEb
    clear h hb hlo hL hT hE hEE hEb
    go_enter Tryd.func18, Tryd.ntmps18
    go_wp2_with (first
      | (go_at_call 25; (with_reducible refine (HA.out _).mono ?_); rintro e w3 ⟨rfl, rfl⟩)
      | fail)
    go_loopw [7, 8] (fun vr ir wr => ∃ k : Nat, k ≤ E - t.low ∧ ir = .int .u64 ((L + k : Nat) : Int) ∧ Hid (wr.ownsRow w.heap.size 22 1 vr (t.lackTo node k).length (u64s (t.lackTo node k))) ∧ Hid (Below w.heap.size w wr)) (fun _ ir _ => L + 200 - (intOf ir).toNat)
    case atStart => exact ⟨0, Nat.zero_le _, rfl, Lib.hid (World.ownsRow_nil _ _ _ _), Lib.hid (Below.refl _ _)⟩
    case round =>
      obtain ⟨k, hk, rfl, HO, HB⟩ := hrel
      have hW := HH.out.below HB.out
      have HT2 := Lib.hid (HT.out wr HB.out)
      by_cases hlt : k < E - t.low
      · have d1 : decide (L + k ≤ E) = true := by have := HL.out; simp; omega
        have d1' : decide (((L + k : Nat) : Int) ≤ (E : Int)) = true := by have := HL.out; simp; omega
        have hx64 : L + k < 18446744073709551615 := by have := HL.out; have := HE.out; have := HLO.out; omega
        have HLK := Lib.hid (hW.look (L + k) (by omega))
        have HQ := Lib.hid (fun W => Qu.has_any (t.who (L + k)) node W (hW.ok.who_lt _))
        have ew : IntKind.u64.wrap (((L + k : Nat) : Int) + 1) = ((L + (k + 1) : Nat) : Int) := by rw [Qu.u64w _ (by omega) (by omega)]; omega
        have hsuc := t.lackTo_succ node k
        rw [HL.out] at hsuc
        have c2 := hW.c2
        have hpl := t.lackTo_len node k
        have hk2 : k ≤ 192 := by have := HE.out; omega
        have hme : (((L + k : Nat) : Int)).toNat = L + k := rfl
        have hme2 : (((L + (k + 1) : Nat) : Int)).toNat = L + (k + 1) := rfl
        have HKK := Lib.hid hk2
        have HLT := Lib.hid hlt
        have hsz := HB.out.size
        obtain ⟨x, hx⟩ : ∃ x, L + k = x := ⟨_, rfl⟩
        obtain ⟨x', hx'⟩ : ∃ x', L + (k + 1) = x' := ⟨_, rfl⟩
        rw [hx'] at ew hme2
        rw [hx] at d1 d1' HLK HQ ew hsuc hme ⊢
        have HX := Lib.hid (And.intro hx hx')
        cases hb : Qu.inB (t.who x) node with
        | true =>
          rw [hb] at HQ
          rw [hb, if_pos rfl, List.append_nil] at hsuc
          have HS := Lib.hid hsuc
          clear hsuc hb hx hx' hW hx64 hlt
          go_wp2_with (first
            | (go_at_call 26; (with_reducible refine HT2.out.mono ?_); rintro e w3 ⟨rfl, rfl⟩)
            | (refine wpL_look rfl _ (.tmp 36) (.tmp 37) false rfl rfl rfl HLK.out ?_)
            | (go_at_call 25; (with_reducible refine (HQ.out _).mono ?_); rintro e w3 ⟨rfl, rfl⟩)
            | fail)
          go_roundw
          case rel => exact ⟨k + 1, by have := HLT.out; omega, by rw [HX.out.2], by rw [HS.out]; exact HO, HB⟩
          case measure => have := HX.out; have := HKK.out; simp [intOf]; omega
        | false =>
          rw [hb] at HQ
          rw [hb, if_neg (by decide)] at hsuc
          have HS := Lib.hid hsuc
          clear hsuc hb hx hx' hW hx64 hlt
          go_wp2_with (first
            | (go_at_call 26; (with_reducible refine HT2.out.mono ?_); rintro e w3 ⟨rfl, rfl⟩)
            | (refine wpL_look rfl _ (.tmp 36) (.tmp 37) false rfl rfl rfl HLK.out ?_)
            | (go_at_call 25; (with_reducible refine (HQ.out _).mono ?_); rintro e w3 ⟨rfl, rfl⟩)
            | (at_builtin; refine wpL_app rfl _ _ _ _ rfl Qu.Elem64 rfl rfl (HO.out.alloc _) (Src.lit Tryd.underlying43 _ rfl (by intro u hu; simp at hu; subst hu; rfl)) (by unfold maxLen; omega) (by omega) (by simp; omega) ?_; intro v2 w2 hown2 hg2 hat2)
            | fail)
          go_roundw
          case rel =>
            refine ⟨k + 1, by have := HLT.out; omega, by rw [HX.out.2], Lib.hid ?_, Lib.hid ((HB.out.alloc hsz _).grown hg2 (by simp; omega) (fun k e => (HO.out.lt k e).1))⟩
            rw [HS.out, List.length_append, u64s_app]
            exact hown2
          case measure => have := HX.out; have := HKK.out; simp [intOf]; omega
      · have hkE : k = E - t.low := by omega
        have hx1 : L + k ≤ E + 1 + L := by omega
        have d1 : decide (L + k ≤ E) = false := by have := HL.out; simp; omega
        have d1' : decide (((L + k : Nat) : Int) ≤ (E : Int)) = false := by have := HL.out; simp; omega
        rw [hkE] at HO
        obtain ⟨x, hx⟩ : ∃ x, L + k = x := ⟨_, rfl⟩
        rw [hx] at d1 d1' ⊢
        obtain ⟨A, c, rfl⟩ := ownsRow_form HO.out
        clear hx hx1 hW hlt hk hkE
        go_wp2_with (first
          | (go_at_call 26; (with_reducible refine HT2.out.mono ?_); rintro e w3 ⟨rfl, rfl⟩)
          | fail)
        go_ret
        exact ⟨A, c, rfl, ownsRow_rd HO.out, HB.out⟩
end Go.Proofs.YtjhakplaffgkpaaDoor

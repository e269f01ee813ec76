/- What a majority has at least: told, Least, at a function that only reads. -/
import Derived.Test.YtkcpldkdnnhmmaaQt
import Derived.Test.YtkcpldkdnnhmmaaQc
namespace Go.Proofs.Ytkcpldkdnnhmmaa.Qu
open Go.RowKit
set_option maxRecDepth 20000

/-- The middle one of what is sorted. -/
def mid (S : Array Nat → Array Nat) (l : List Nat) : Nat := if l.length = 0 then 0 else (S l.toArray)[(l.length - 1) / 2]!
theorem own_slice64 {w : World} {base n : Nat} {v : Value} {l : List Nat} (h : w.ownsRow base 29 1 v n (u64s l)) : ∃ A c, v = .slice A n c := by
  rcases h.2 with ⟨rfl, hn⟩ | ⟨g, cap, cur, rfl, _⟩
  · obtain rfl : n = 0 := by have := h.1; rw [hn] at this; simp at this; omega
    exact ⟨_, _, rfl⟩
  · exact ⟨_, _, rfl⟩
theorem arr_own {w : World} {base n g cap : Nat} {l : List Nat} (_ : l.length = n) (h : w.ownsRow base 29 1 (.slice (some ⟨g, 0, none⟩) n cap) n (u64s l)) : Arr w g l.toArray := by
  refine ⟨(h.lt g rfl).2, fun i hi => ?_, fun i hi => h.frozenAt i⟩
  have hi : i < l.length := by simpa using hi
  have := h.cells (g := g) rfl i (.int .u64 ((l[i] : Nat) : Int)) (by unfold u64s; rw [List.getElem?_map, List.getElem?_eq_getElem hi]; rfl)
  rw [addOff, Nat.zero_add] at this
  rw [this]
  simp [hi]

theorem toldL_any (p : Nat) (n y : Int) (w : World) (hf : Calls Try.prog 29 #[.int .i64 n, .pointer (some ⟨p, 0, none⟩)] w fun e w' => e = .returned (.int .u64 y) ∧ w = w') :
    Calls Try.prog 46 #[.func (.func 29) #[] #[.pointer (some ⟨p, 0, none⟩)], .int .i64 n] w fun e w' => e = .returned (.int .u64 y) ∧ w = w' := by
  have HF := Lib.hid hf
  clear hf
  go_enter_defers Try.func46, Try.ntmps46
  go_wp2_with fail
  refine HF.out.mono ?_
  rintro e w1 ⟨rfl, rfl⟩
  go_wp2
  refine leaves_cons (f := 51) (args := #[]) (by simp) (by simp [go_sem]) ?_
  refine (told_idle _).mono ?_
  rintro e u' w'' ⟨rfl, rfl, rfl⟩
  simp [Leaves, settle, results, Try.results46, go_sem]
set_option maxHeartbeats 1000000 in
theorem leastL_any (s p : Nat) (f : Nat → Nat) (S : Array Nat → Array Nat) (w : World) (hs : s < 18446744073709551616)
    (hf : ∀ W, Below w.heap.size w W → ∀ k : Nat, k ∈ memb s → Calls Try.prog 29 #[.int .i64 (k : Int), .pointer (some ⟨p, 0, none⟩)] W fun e w' => e = .returned (.int .u64 ((f k : Nat) : Int)) ∧ W = w')
    (hS : ∀ d, (S d).size = d.size)
    (hsort : ∀ W g c (d : Array Nat), d.size = (memb s).length → Arr W g d → Calls Try.prog 47 #[.slice (some ⟨g, 0, none⟩) (memb s).length c] W (Sorted W g (S d))) :
    Calls Try.prog 28 #[.int .u64 (s : Int), .func (.func 29) #[] #[.pointer (some ⟨p, 0, none⟩)]] w fun e w' => e = .returned (.int .u64 ((mid S ((memb s).map f) : Nat) : Int)) ∧ Below w.heap.size w w' := by
  obtain ⟨R, hR⟩ : ∃ R, R = mid S ((memb s).map f) := ⟨_, rfl⟩
  rw [← hR]
  have HR := Lib.hid hR
  clear hR
  have HM := Lib.hid (members_any s w hs)
  have HF := Lib.hid hf
  have HSO := Lib.hid hsort
  have hl64 : (memb s).length ≤ 64 := by rw [memb_len]; exact pop64_le s
  have HML := Lib.hid (mem_64 s)
  have HSS := Lib.hid hS
  clear hs hf hsort hS
  generalize mem_ s 64 = l at *
  generalize memb s = m at *
  go_enter Try.func28, Try.ntmps28
  go_wp2_with (go_at_call 45; refine HM.out.mono ?_; clear HM; rintro e w1 ⟨A, c, rfl, hown, hbel⟩)
  have hlm : l.length = m.length := by rw [HML.out, List.length_map]
  rw [hlm] at hown ⊢
  have H1 := Lib.hid (fun i (hi : i < m.length) => (ownsRow_rd hown).at_ hi)
  have HB := Lib.hid hbel
  obtain ⟨n, hn⟩ : ∃ n, n = m.length := ⟨_, rfl⟩
  rw [← hn] at H1 hl64 HSO ⊢
  have HN := Lib.hid hn
  clear hown hbel hn hlm
  go_loopw [5, 11] (fun vr ir wr => ∃ i : Nat, i ≤ n ∧ ir = .int .i64 (i : Int) ∧ Hid (wr.ownsRow w1.heap.size 29 1 vr i (u64s ((m.take i).map f))) ∧ Hid (Below w1.heap.size w1 wr)) (fun _ ir _ => n - (intOf ir).toNat)
  case atStart => exact ⟨0, Nat.zero_le _, rfl, Lib.hid (World.ownsRow_nil _ _ _ _), Lib.hid (Below.refl _ _)⟩
  case round =>
    obtain ⟨i, hi, rfl, HO, HBl⟩ := hrel
    by_cases hlt : i < n
    · obtain ⟨p1, o1, v1, rfl, hp1, hv1, hc1⟩ := H1.out i hlt
      obtain ⟨y, hy, rfl⟩ : ∃ y : Nat, m[i]? = some y ∧ v1 = .int .i64 (y : Int) := by
        rw [HML.out] at hv1
        unfold is at hv1
        rw [List.map_map, List.getElem?_map] at hv1
        cases hx : m[i]? with
        | none => rw [hx] at hv1; cases hv1
        | some x => rw [hx] at hv1; exact ⟨x, rfl, (Option.some.inj hv1).symm⟩
      have hst : u64s ((m.take (i + 1)).map f) = u64s ((m.take i).map f) ++ [.int .u64 ((f y : Nat) : Int)] := by
        obtain ⟨hil, rfl⟩ := List.getElem?_eq_some_iff.1 hy
        rw [List.take_succ_eq_append_getElem hil, List.map_append]
        unfold u64s
        rw [List.map_append]
        rfl
      have hc2 := (HBl.out.cell (p := ⟨p1, o1 + i, none⟩) hp1).trans hc1
      have hT := toldL_any p (y : Int) ((f y : Nat) : Int) wr (HF.out wr (HB.out.trans (HBl.out.mono HB.out.size)) y (List.mem_of_getElem? hy))
      have HT := Lib.hid hT
      have HST := Lib.hid hst
      have hsz := HBl.out.size
      have d1 : decide (i < n) = true := by simpa using hlt
      clear hv1 hp1 hy hst hc1 hT
      generalize f y = fy at *
      go_wp2_with (first
        | (go_at_call 46; (refine HT.out.mono ?_); clear HT; rintro e w3 ⟨rfl, rfl⟩)
        | (at_builtin; refine wpL_app rfl _ _ _ _ rfl Elem64 rfl rfl (HO.out.alloc _) (Src.lit Try.underlying42 _ rfl (by intro u hu; simp at hu; subst hu; rfl)) (by unfold maxLen; omega) (by omega) (by simp; omega) ?_; intro v2 w2 hown2 hg2 hat2))
      go_roundw
      case rel =>
        refine ⟨i + 1, by omega, by go_num, Lib.hid ?_, Lib.hid ((HBl.out.alloc hsz _).grown hg2 (by simp; omega) (fun k e => (HO.out.lt k e).1))⟩
        rw [HST.out]
        exact hown2
      case measure => simp [intOf]; omega
    · obtain rfl : i = n := by omega
      have hT : m.take i = m := List.take_of_length_le (by have := HN.out; omega)
      rw [hT] at HO
      obtain ⟨A2, c2, rfl⟩ := own_slice64 HO.out
      have d1 : decide (i < i) = false := by simp
      have hBw := HB.out.trans (HBl.out.mono HB.out.size)
      have HBW := Lib.hid hBw
      clear hT hlt hBw
      rcases Nat.eq_zero_or_pos i with h0 | h0
      · subst h0
        have hm : m = [] := List.eq_nil_of_length_eq_zero HN.out.symm
        have e0 : mid S (m.map f) = 0 := by rw [hm]; rfl
        have HE := Lib.hid (HR.out.trans e0)
        clear e0
        go_wp2
        go_ret
        exact ⟨ret_u64 (by rw [HE.out]; rfl), HBW.out⟩
      · obtain ⟨k, rfl⟩ : ∃ k, i = k + 1 := ⟨i - 1, by omega⟩
        have hml : (m.map f).length = k + 1 := by rw [List.length_map]; exact HN.out.symm
        obtain ⟨g, cap, cur, hv, hbase, hcells⟩ : ∃ g cap cur, (Value.slice A2 (k + 1) c2) = .slice (some ⟨g, 0, none⟩) (k + 1) cap ∧ w1.heap.size ≤ g ∧ Arr wr g (m.map f).toArray ∧ cur = k := by
          rcases HO.out.2 with ⟨hv, _⟩ | ⟨g, cap, cur, hv, hg, _⟩
          · cases hv
          · refine ⟨g, cap, k, hv, hg, arr_own (n := k + 1) (by rw [hml]) (hv ▸ HO.out), rfl⟩
        obtain ⟨harr, _⟩ := hcells
        cases hv
        have hq := HSO.out wr g c2 (m.map f).toArray (by simp [hml]) harr
        have hsz : (S (m.map f).toArray).size = k + 1 := by rw [HSS.out]; simp [hml]
        have hmid : mid S (m.map f) = (S (m.map f).toArray)[k / 2]! := by unfold mid; rw [if_neg (by rw [hml]; omega), hml, Nat.add_sub_cancel]
        have HE := Lib.hid (HR.out.trans hmid)
        have HQ := Lib.hid hq
        have HG := Lib.hid (Nat.le_trans HB.out.size hbase)
        have hk3 : k / 2 < k + 1 := by omega
        clear hq harr hmid hml h0 HO HR
        generalize S (m.map f).toArray = D at *
        have HD := Lib.hid hsz
        clear hsz
        have q1 : (k : Int) / 2 = ((k / 2 : Nat) : Int) := by omega
        have q2 : (k : Int) ≤ 63 := by omega
        generalize hh : k / 2 = h2 at *
        have q3 : (h2 : Int) < (k : Int) + 1 := by omega
        clear hh
        go_wp2_with (first
          | (go_at_call 47; refine HQ.out.mono ?_; clear HQ; rintro e w5 ⟨rfl, ha5, ht5⟩
             have c5 := ha5.cell h2 (by rw [HD.out]; exact hk3)
             have HT5 := Lib.hid ht5
             clear ha5 ht5)
          | fail)
        go_ret
        exact ⟨ret_u64 (by rw [HE.out]), HBW.out.grown HT5.out HBW.out.size (fun x e => by cases e; exact HG.out)⟩

end Go.Proofs.Ytkcpldkdnnhmmaa.Qu

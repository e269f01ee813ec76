/- Contracts of package octet. Contracts of octet's Reader. Contracts of octet's Reader: numbers, texts, bytes. Contracts of octet's Reader: texts, bytes; Read; Text. -/
import Derived.Test.YtddnjlnhnnpgiaaWords
namespace Go.Proofs.Ytddnjlnhnnpgiaa
set_option maxRecDepth 20000
open Go.RowKit

theorem isWidth_yes (n : Int) (w : World) (h1 : 1 ≤ n) (h2 : n ≤ 8) :
    Calls Try.prog 87 #[.int .i64 n] w fun e w' => e = .returned (.bool true) ∧ w = w' := by
  go_enter Try.func87, Try.ntmps87
  go_wp2
  go_ret
  exact ⟨rfl, rfl⟩
theorem isWidth_no (n : Int) (w : World) (h : n < 1 ∨ 8 < n) :
    Calls Try.prog 87 #[.int .i64 n] w fun e w' => e = .returned (.bool false) ∧ w = w' := by
  rcases h with h | h
  · go_enter Try.func87, Try.ntmps87
    go_wp2
    go_ret
    exact ⟨rfl, rfl⟩
  · have h1 : 1 ≤ n := by omega
    have h2 : decide (n ≤ 8) = false := by simp; omega
    go_enter Try.func87, Try.ntmps87
    go_wp2
    go_ret
    exact ⟨rfl, rfl⟩

theorem E_u8 : Elem Try.prog 38 5 (.int .u8 0) 1 1 := Elem.mk_ Try.underlying38 (by kernel_rfl) rfl (by decide)

theorem grown_any (A : Option Addr) (n c : Nat) (l : List UInt8) (r : Int) (w : World) (h : Rd w w.heap.size 1 A n c (u8s l)) (h0 : 0 ≤ r) (hr : n + r ≤ 1000000) :
    Calls Try.prog 91 #[.slice A n c, .int .i64 r] w fun e w' => ∃ v, e = .returned v ∧ w'.ownsRow w.heap.size 5 1 v n (u8s l) ∧ Below w.heap.size w w' := by
  go_enter Try.func91, Try.ntmps91
  go_wp2_with (first
    | (at_make; refine wpL_make0 rfl _ _ _ rfl (base := w.heap.size) E_u8 (n + r.toNat) rfl rfl (by omega) (by omega) (by unfold maxLen; omega) (Nat.le_refl _) ?_; intro w1 hown1 hg1
       have hb1 : Below w.heap.size w w1 := (Below.refl _ _).grown hg1 (Nat.le_refl _) (fun k hk => by cases hk))
    | (at_builtin; refine wpL_app rfl _ _ _ _ rfl E_u8 rfl rfl hown1 ((h.below hb1).src Try.underlying38 (u8s_one l)) (by unfold maxLen; omega) (by omega) hb1.size ?_; intro v2 w2 hown2 hg2 hat2))
  go_ret
  refine ⟨_, rfl, by simpa using hown2, hb1.grown hg2 hb1.size ?_⟩
  intro k hk
  cases hk
  exact Nat.le_refl _

theorem number_any (v : Value) (n : Nat) (xs : List Value) (k x base : Nat) (w : World) (h : w.ownsRow base 5 1 v n xs) (hb : base ≤ w.heap.size) (hk : k ≤ 8) (hn : n ≤ 2000000) :
    Calls Try.prog 92 #[v, .int .i64 k, .int .u64 x] w fun e w' => ∃ v', e = .returned v' ∧ w'.ownsRow base 5 1 v' (n + k) (xs ++ u8s (le k x)) ∧ Ext w v w' v' := by
  go_enter Try.func92, Try.ntmps92
  go_wp2
  go_loopw [0, 2, 8] (fun vr xr ir wr => ∃ i : Nat, i ≤ k ∧ ir = .int .i64 i ∧ xr = .int .u64 ((x : Int) / 256 ^ i) ∧ wr.ownsRow base 5 1 vr (n + i) (xs ++ u8s (le i x)) ∧ Ext w v wr vr) (fun _ _ ir _ => k - (intOf ir).toNat)
  case atStart => exact ⟨0, Nat.zero_le _, rfl, by simp, by simpa [le, u8s] using h, Ext.refl _ _⟩
  case round =>
    obtain ⟨i, hi, rfl, rfl, hown, hext⟩ := hrel
    have hz := hext.1.size
    by_cases hlt : i < k
    · go_wp2_with (at_builtin; refine wpL_app rfl _ _ _ _ rfl E_u8 rfl rfl (hown.alloc _) (Src.lit Try.underlying38 _ rfl (by intro u hu; simp at hu; subst hu; rfl)) (by unfold maxLen; omega) (by omega) (by simp; omega) ?_; intro v2 w2 hown2 hg2 hat2)
      go_roundw
      case rel =>
        refine ⟨i + 1, by omega, by go_num, ?_, ?_, (hext.alloc _).trans (Ext.app hg2 hat2)⟩
        · rw [Int.pow_succ, Int.ediv_ediv_of_nonneg (Int.pow_nonneg (by decide))]
        · rw [← le_snoc', ← List.append_assoc]
          exact hown2
      case measure => simp [intOf]; omega
    · obtain rfl : i = k := by omega
      go_wp2
      go_ret
      exact ⟨_, rfl, hown, hext⟩


theorem put_bad (A A2 : Option Addr) (n c n2 c2 : Nat) (l : List UInt8) (W : Int) (w : World) (h : Rd w w.heap.size 1 A n c (u8s l)) (hn : n ≤ 1000000) (hW : W < 1 ∨ 8 < W) :
    Calls Try.prog 77 #[.slice A n c, .int .i64 W, .slice A2 n2 c2] w fun e w' => ∃ v, e = .returned v ∧ w'.ownsRow w.heap.size 5 1 v n (u8s l) ∧ Below w.heap.size w w' := by
  go_enter Try.func77, Try.ntmps77
  go_wp2_with (first
    | (go_at_call 87; refine (isWidth_no _ _ hW).mono ?_; rintro e w' ⟨rfl, rfl⟩)
    | (go_at_call 91; refine (grown_any _ _ _ l _ _ h (by omega) (by omega)).mono ?_; rintro e w' ⟨v, rfl, hown, hb⟩))
  go_ret
  exact ⟨_, rfl, hown, hb⟩

theorem put_good (A A2 : Option Addr) (n c n2 c2 : Nat) (l : List UInt8) (ns : List Nat) (W : Nat) (w : World) (h : Rd w w.heap.size 1 A n c (u8s l)) (h2 : Rd w w.heap.size 1 A2 n2 c2 (u64s ns)) (hn : n + n2 * 8 ≤ 1000000) (h1W : 1 ≤ W) (hW : W ≤ 8) :
    Calls Try.prog 77 #[.slice A n c, .int .i64 (W : Int), .slice A2 n2 c2] w fun e w' => ∃ v, e = .returned v ∧ w'.ownsRow w.heap.size 5 1 v (n + n2 * W) (u8s (l ++ puts W ns)) ∧ Below w.heap.size w w' := by
  have hm : n2 * W ≤ n2 * 8 := Nat.mul_le_mul_left _ hW
  have hmi : (n : Int) + (W : Int) * (n2 : Int) ≤ 1000000 := by
    have : ((n + n2 * W : Nat) : Int) ≤ 1000000 := by omega
    rw [Int.mul_comm]; simpa using this
  have hmj : 0 ≤ (W : Int) * (n2 : Int) := Int.mul_nonneg (by omega) (by omega)
  go_enter Try.func77, Try.ntmps77
  go_wp2_with (first
    | (go_at_call 87; refine (isWidth_yes _ _ (by omega) (by omega)).mono ?_; rintro e w' ⟨rfl, rfl⟩)
    | (go_at_call 91; refine (grown_any _ _ _ l _ _ h (by omega) (by omega)).mono ?_; rintro e w' ⟨v, rfl, hown, hb⟩))
  clear hmi hmj
  go_loopw [7, 23] (fun vr ir wr => ∃ i : Nat, i ≤ n2 ∧ ir = .int .i64 i ∧ wr.ownsRow w.heap.size 5 1 vr (n + i * W) (u8s (l ++ puts W (ns.take i))) ∧ Below w.heap.size w wr) (fun _ ir _ => n2 - (intOf ir).toNat)
  case atStart => exact ⟨0, Nat.zero_le _, rfl, by simpa [puts] using hown, hb⟩
  case round =>
    obtain ⟨i, hi, rfl, hown, hb⟩ := hrel
    have hz := hb.size
    by_cases hlt : i < n2
    · obtain ⟨b, o, u, rfl, hbl, hu, hc⟩ := (h2.below hb).at_ hlt
      obtain ⟨x, hx, rfl⟩ := u64s_get _ _ _ hu
      have him : i * W ≤ n2 * W := Nat.mul_le_mul_right _ hi
      go_wp2_with (go_at_call 92; refine (number_any _ _ _ _ _ _ _ hown hz hW (by omega)).mono ?_; rintro e w' ⟨v1, rfl, hown1, hext1⟩)
      go_roundw
      case rel =>
        refine ⟨i + 1, by omega, by go_num, ?_, hb.trans (hext1.below hown hz (Nat.le_refl _))⟩
        rw [puts_take _ _ _ _ hx, ← List.append_assoc, u8s_app, Nat.add_mul, Nat.one_mul, ← Nat.add_assoc]
        exact hown1
      case measure => simp [intOf]; omega
    · obtain rfl : i = n2 := by omega
      go_wp2
      go_ret
      refine ⟨_, rfl, ?_, hb⟩
      rw [List.take_of_length_le (by have := h2.len; simp [u64s] at this; omega)] at hown
      exact hown

end Go.Proofs.Ytddnjlnhnnpgiaa

namespace Go.Proofs.Ytddnjlnhnnpgiaa
set_option maxRecDepth 20000
open Go.RowKit

/-- What a reader has left, and whether it is bad. -/
structure St where
  l : List UInt8
  bad : Bool
def St.next (s : St) (n : Int) : List UInt8 × St := if 0 ≤ n ∧ n ≤ s.l.length then (s.l.take n.toNat, ⟨s.l.drop n.toNat, s.bad⟩) else ([], ⟨[], true⟩)

def Rdr (w : World) (g : Nat) (s : St) : Prop := w.heap[g]? = some (.cells #[.string (str s.l), .bool s.bad] 145 (0, 0)) ∧ s.l.length ≤ 1000000

theorem Rdr.cell0 {w : World} {g : Nat} {s : St} (h : Rdr w g s) : w.cell? ⟨g, 0, none⟩ = some (.string (str s.l)) := cell_of_row w g 0 _ _ _ h.1
theorem Rdr.cell1 {w : World} {g : Nat} {s : St} (h : Rdr w g s) : w.cell? ⟨g, 1, none⟩ = some (.bool s.bad) := cell_of_row w g 1 _ _ _ h.1
theorem Rdr.free {w : World} {g : Nat} {s : St} (h : Rdr w g s) (i : Nat) : w.frozen? ⟨g, i, none⟩ = false := frozen_of_row w g i _ _ h.1

theorem Rdr.lt {w : World} {g : Nat} {s : St} (h : Rdr w g s) : g < w.heap.size := (Array.getElem?_eq_some_iff.1 h.1).1
theorem Rdr.kept {w w' : World} {g : Nat} {s : St} {row : Option Nat} (h : Rdr w g s) (hg : w.grownBy w' row) (hne : some g ≠ row) : Rdr w' g s := ⟨(hg.block g h.lt hne).trans h.1, h.2⟩
theorem Rdr.put0 {w : World} {g : Nat} {s : St} (h : Rdr w g s) (l : List UInt8) (hl : l.length ≤ 1000000) : Rdr (w.setCell ⟨g, 0, none⟩ (.string (str l))) g ⟨l, s.bad⟩ := by
  refine ⟨?_, hl⟩
  rw [heap_setCell_same w g 0 _ _ _ h.1]
  rfl
theorem Rdr.put1 {w : World} {g : Nat} {s : St} (h : Rdr w g s) (b : Bool) : Rdr (w.setCell ⟨g, 1, none⟩ (.bool b)) g ⟨s.l, b⟩ := by
  refine ⟨?_, h.2⟩
  rw [heap_setCell_same w g 1 _ _ _ h.1]
  rfl

theorem size_any (g o : Nat) (l : List UInt8) (w : World) (h : w.cell? ⟨g, o, none⟩ = some (.string (str l))) :
    Calls Try.prog 97 #[.pointer (some ⟨g, o, none⟩)] w fun e w' => e = .returned (.int .i64 (l.length : Nat)) ∧ w = w' := by
  have hs : (str l).size = l.length := rfl
  go_enter Try.func97, Try.ntmps97
  go_wp2
  go_ret
  exact ⟨rfl, rfl⟩

theorem cut_any (g o : Nat) (l : List UInt8) (n : Int) (w : World) (h : w.cell? ⟨g, o, none⟩ = some (.string (str l))) (hf : w.frozen? ⟨g, o, none⟩ = false) (h0 : 0 ≤ n) (hn : n ≤ l.length) :
    Calls Try.prog 98 #[.pointer (some ⟨g, o, none⟩), .int .i64 n] w fun e w' => e = .returned (.string (str (l.take n.toNat))) ∧ w' = w.setCell ⟨g, o, none⟩ (.string (str (l.drop n.toNat))) := by
  have hs : (str l).size = l.length := rfl
  go_enter Try.func98, Try.ntmps98
  go_wp2
  go_ret
  exact ⟨by rw [← str_take]; rfl, by rw [← str_drop]⟩

theorem fail_nil (w : World) : Calls Try.prog 88 #[.pointer none] w fun e w' => e = .returned (.tuple #[]) ∧ w = w' := by
  go_enter Try.func88, Try.ntmps88
  go_wp2
  go_returns
  exact ⟨rfl, rfl⟩
theorem fail_any (g : Nat) (s : St) (w : World) (h : Rdr w g s) :
    Calls Try.prog 88 #[.pointer (some ⟨g, 0, none⟩)] w fun e w' => e = .returned (.tuple #[]) ∧ Rdr w' g ⟨[], true⟩ ∧ w.grownBy w' (some g) := by
  have hc := h.cell0
  have hd := h.cell1
  have f0 := h.free 0
  have f1 := h.free 1
  have hR : Rdr ((w.setCell ⟨g, 1, none⟩ (.bool true)).setCell ⟨g, 0, none⟩ (.string { data := #[] })) g ⟨[], true⟩ := (h.put1 true).put0 [] (by simp)
  have hB : w.grownBy ((w.setCell ⟨g, 1, none⟩ (.bool true)).setCell ⟨g, 0, none⟩ (.string { data := #[] })) (some g) := setCell_by (w' := w.setCell ⟨g, 1, none⟩ (.bool true)) (p := ⟨g, 0, none⟩) (setCell_by (w' := w) (p := ⟨g, 1, none⟩) (World.grownBy.refl w (some g)) rfl (.bool true)) rfl (.string { data := #[] })
  have HR := Lib.hid hR
  have HB := Lib.hid hB
  clear hR hB
  go_enter Try.func88, Try.ntmps88
  go_wp2
  go_returns
  exact ⟨rfl, HR.out, HB.out⟩
def St.end_ (s : St) : Int := if s.bad = true ∨ 0 < s.l.length then 10 else 0
/-- Only the block g (and what is new) turns. -/
theorem next_nil (n : Int) (w : World) : Calls Try.prog 89 #[.pointer none, .int .i64 n] w fun e w' => e = .returned (.string (str [])) ∧ w = w' := by
  go_enter Try.func89, Try.ntmps89
  go_wp2
  go_ret
  exact ⟨rfl, rfl⟩
theorem next_any (g : Nat) (s : St) (n : Int) (w : World) (h : Rdr w g s) :
    Calls Try.prog 89 #[.pointer (some ⟨g, 0, none⟩), .int .i64 n] w fun e w' => e = .returned (.string (str (s.next n).1)) ∧ Rdr w' g (s.next n).2 ∧ w.grownBy w' (some g) := by
  have hc := h.cell0
  have hf := h.free 0
  have hl := h.2
  by_cases hn : 0 ≤ n ∧ n ≤ s.l.length
  · have hfin : s.next n = (s.l.take n.toNat, ⟨s.l.drop n.toNat, s.bad⟩) := by unfold St.next; rw [if_pos hn]
    have hR := h.put0 (s.l.drop n.toNat) (by rw [List.length_drop]; omega)
    have hB := setCell_by (World.grownBy.refl w (some g)) (p := ⟨g, 0, none⟩) rfl (.string (str (s.l.drop n.toNat)))
    have H := Lib.hid hfin
    have HR := Lib.hid hR
    have HB := Lib.hid hB
    clear hfin hR hB
    obtain ⟨h0, h1⟩ := hn
    go_enter Try.func89, Try.ntmps89
    go_wp2_with (first
      | (go_at_call 97; refine (size_any _ _ _ _ hc).mono ?_; rintro e w' ⟨rfl, rfl⟩)
      | (go_at_call 98; refine (cut_any _ _ _ _ _ hc hf h0 h1).mono ?_; rintro e w' ⟨rfl, rfl⟩))
    go_ret
    exact ⟨by rw [H.out]; rfl, by rw [H.out]; exact HR.out, HB.out⟩
  · have hfin : s.next n = ([], ⟨[], true⟩) := by unfold St.next; rw [if_neg hn]
    have H := Lib.hid hfin
    clear hfin
    rcases Int.lt_or_le n 0 with h0 | h0
    · clear hn
      go_enter Try.func89, Try.ntmps89
      go_wp2_with (go_at_call 88; refine (fail_any _ _ _ h).mono ?_; rintro e w' ⟨rfl, hR, hB⟩)
      go_ret
      exact ⟨by rw [H.out]; rfl, by rw [H.out]; exact hR, hB⟩
    · have h1 : (s.l.length : Int) < n := by omega
      clear hn
      go_enter Try.func89, Try.ntmps89
      go_wp2_with (first
        | (go_at_call 97; refine (size_any _ _ _ _ hc).mono ?_; rintro e w' ⟨rfl, rfl⟩)
        | (go_at_call 88; refine (fail_any _ _ _ h).mono ?_; rintro e w' ⟨rfl, hR, hB⟩))
      go_ret
      exact ⟨by rw [H.out]; rfl, by rw [H.out]; exact hR, hB⟩

end Go.Proofs.Ytddnjlnhnnpgiaa

namespace Go.Proofs.Ytddnjlnhnnpgiaa
set_option maxRecDepth 20000
open Go.RowKit

/-- The number that bytes are, the lowest first. -/
def unle : List UInt8 → Nat
  | [] => 0
  | b :: l => b.toNat + 256 * unle l
theorem unle_lt (l : List UInt8) : unle l < 256 ^ l.length := by
  induction l with
  | nil => simp [unle]
  | cons b l ih =>
    have := b.toNat_lt
    simp only [unle, List.length_cons, Nat.pow_succ]
    omega
theorem unle_le8 (l : List UInt8) (h : l.length ≤ 8) : unle l < 18446744073709551616 :=
  Nat.lt_of_lt_of_le (unle_lt l) (Nat.pow_le_pow_right (by decide) h : 256 ^ l.length ≤ 256 ^ 8)
def St.num (s : St) (W : Int) : Nat × St := if 1 ≤ W ∧ W ≤ 8 then (unle (s.next W).1, (s.next W).2) else (0, ⟨[], true⟩)

theorem or_byte (a : Nat) (b : UInt8) (h : a < 72057594037927936) : bits .or .u64 (IntKind.u64.wrap ((a : Int) * 256)) (IntKind.u64.wrap (b.toNat : Int)) = ((b.toNat + 256 * a : Nat) : Int) := by
  have hb := b.toNat_lt
  have e1 : IntKind.u64.wrap ((a : Int) * 256) = ((a * 256 : Nat) : Int) := by
    rw [IntKind.wrap_u64]; omega
  have e2 : IntKind.u64.wrap (b.toNat : Int) = (b.toNat : Int) := by
    rw [IntKind.wrap_u64]; omega
  rw [e1, e2, u64_or_nat _ _ (by omega) (by omega), nat_join 8 _ _ (by omega) (by omega)]
  omega
theorem unle_step (t : List UInt8) (i : Nat) (hi : i < t.length) (h : t.length - 1 - i < (str t).size) : unle (t.drop (t.length - (i + 1))) = ((str t)[t.length - 1 - i]).toNat + 256 * unle (t.drop (t.length - i)) := by
  have e : t.length - (i + 1) = t.length - 1 - i := by omega
  have hlt : t.length - 1 - i < t.length := by omega
  rw [e, List.drop_eq_getElem_cons hlt]
  have e2 : t.length - 1 - i + 1 = t.length - i := by omega
  rw [e2]
  rfl
theorem St.next_len (s : St) (n : Int) : ((s.next n).1.length : Int) ≤ n ∨ (s.next n).1 = [] := by
  unfold St.next
  split
  · left; simp only [List.length_take]; omega
  · right; rfl

theorem num_any (g : Nat) (s : St) (W : Int) (w : World) (h : Rdr w g s) (h1 : 1 ≤ W) (h8 : W ≤ 8) :
    Calls Try.prog 73 #[.pointer (some ⟨g, 0, none⟩), .int .i64 W] w fun e w' => e = .returned (.int .u64 ((s.num W).1 : Nat)) ∧ Rdr w' g (s.num W).2 ∧ w.grownBy w' (some g) := by
  have hfin : s.num W = (unle (s.next W).1, (s.next W).2) := by unfold St.num; rw [if_pos ⟨h1, h8⟩]
  have hlen := St.next_len s W
  have hn := next_any g s W w h
  generalize s.next W = r at *
  obtain ⟨t, s'⟩ := r
  have hlen : t.length ≤ 8 := by rcases hlen with h | h <;> simp_all; omega
  have H := Lib.hid hfin
  have HN := Lib.hid hn
  clear hfin hn
  have hs : (str t).size = t.length := rfl
  go_enter Try.func73, Try.ntmps73
  go_wp2_with (first
    | (go_at_call 87; refine (isWidth_yes _ _ h1 h8).mono ?_; rintro e w' ⟨rfl, rfl⟩)
    | (go_at_call 89; refine (HN.out).mono ?_; rintro e w1 ⟨rfl, hR, hB⟩))
  go_loop [6, 18] (fun nr ir => ∃ i : Nat, i ≤ t.length ∧ ir = .int .i64 i ∧ nr = .int .u64 ((unle (t.drop (t.length - i)) : Nat) : Int)) (fun _ ir => t.length - (intOf ir).toNat)
  case atStart => exact ⟨0, Nat.zero_le _, rfl, by simp [unle]⟩
  case round =>
    obtain ⟨i, hi, rfl, rfl⟩ := hrel
    by_cases hlt : i < t.length
    · have hlt7 : unle (t.drop (t.length - i)) < 72057594037927936 := Nat.lt_of_lt_of_le (unle_lt _) (Nat.pow_le_pow_right (by decide) (by rw [List.length_drop]; omega) : _ ≤ 256 ^ 7)
      have HL := Lib.hid hlt7
      clear hlt7
      go_wp2
      go_round
      case rel => exact ⟨i + 1, by omega, by go_num, by rw [or_byte _ _ HL.out, unle_step t i hlt]⟩
      case measure => simp [intOf]; omega
    · obtain rfl : i = t.length := by omega
      go_wp2
      go_ret
      exact ⟨by rw [H.out]; simp, by rw [H.out]; exact hR, hB⟩

theorem num_bad (g : Nat) (s : St) (W : Int) (w : World) (h : Rdr w g s) (hW : W < 1 ∨ 8 < W) :
    Calls Try.prog 73 #[.pointer (some ⟨g, 0, none⟩), .int .i64 W] w fun e w' => e = .returned (.int .u64 ((s.num W).1 : Nat)) ∧ Rdr w' g (s.num W).2 ∧ w.grownBy w' (some g) := by
  have hfin : s.num W = (0, ⟨[], true⟩) := by unfold St.num; rw [if_neg (by omega)]
  have H := Lib.hid hfin
  clear hfin
  go_enter Try.func73, Try.ntmps73
  go_wp2_with (first
    | (go_at_call 87; refine (isWidth_no _ _ hW).mono ?_; rintro e w' ⟨rfl, rfl⟩)
    | (go_at_call 88; refine (fail_any _ _ _ h).mono ?_; rintro e w1 ⟨rfl, hR, hB⟩))
  go_ret
  exact ⟨by rw [H.out]; rfl, by rw [H.out]; exact hR, hB⟩
theorem num_all (g : Nat) (s : St) (W : Int) (w : World) (h : Rdr w g s) :
    Calls Try.prog 73 #[.pointer (some ⟨g, 0, none⟩), .int .i64 W] w fun e w' => e = .returned (.int .u64 ((s.num W).1 : Nat)) ∧ Rdr w' g (s.num W).2 ∧ w.grownBy w' (some g) := by
  by_cases h1 : 1 ≤ W ∧ W ≤ 8
  · exact num_any g s W w h h1.1 h1.2
  · exact num_bad g s W w h (by omega)
theorem num_nil (W : Int) (w : World) : Calls Try.prog 73 #[.pointer none, .int .i64 W] w fun e w' => e = .returned (.int .u64 0) ∧ w = w' := by
  by_cases hW : 1 ≤ W ∧ W ≤ 8
  · obtain ⟨h1, h8⟩ := hW
    have hs : (str []).size = 0 := rfl
    go_enter Try.func73, Try.ntmps73
    go_wp2_with (first
      | (go_at_call 87; refine (isWidth_yes _ _ h1 h8).mono ?_; rintro e w' ⟨rfl, rfl⟩)
      | (go_at_call 89; refine (next_nil _ _).mono ?_; rintro e w1 ⟨rfl, rfl⟩))
    go_loop [6, 18] (fun nr ir => ir = .int .i64 0 ∧ nr = .int .u64 0) (fun _ _ => 0)
    case atStart => exact ⟨rfl, rfl⟩
    case round =>
      obtain ⟨rfl, rfl⟩ := hrel
      go_wp2
      go_ret
      exact ⟨rfl, rfl⟩
  · have hW : W < 1 ∨ 8 < W := by omega
    go_enter Try.func73, Try.ntmps73
    go_wp2_with (first
      | (go_at_call 87; refine (isWidth_no _ _ hW).mono ?_; rintro e w' ⟨rfl, rfl⟩)
      | (go_at_call 88; refine (fail_nil _).mono ?_; rintro e w1 ⟨rfl, rfl⟩))
    go_ret
    exact ⟨rfl, rfl⟩

end Go.Proofs.Ytddnjlnhnnpgiaa

namespace Go.Proofs.Ytddnjlnhnnpgiaa
set_option maxRecDepth 20000
open Go.RowKit

theorem unle_le (k N : Nat) : unle (le k N) = N % 256 ^ k := by
  induction k generalizing N with
  | zero => simp [le, unle, Nat.mod_one]
  | succ k ih =>
    rw [le, unle, ih, Nat.pow_succ, Nat.mul_comm (256 ^ k) 256, Nat.mod_mul]
    simp
theorem le_unle (l : List UInt8) : le l.length (unle l) = l := by
  induction l with
  | nil => rfl
  | cons b l ih =>
    have hb := b.toNat_lt
    have e1 : (b.toNat + 256 * unle l) % 256 = b.toNat := by omega
    have e2 : (b.toNat + 256 * unle l) / 256 = unle l := by omega
    rw [unle, List.length_cons, le, e1, e2, ih]
    simp

def St.text (s : St) : List UInt8 × St := if 16384 < (s.num 2).1 then ([], ⟨[], true⟩) else (s.num 2).2.next (s.num 2).1

theorem byteCells_str (l : List UInt8) : byteCells (str l) = u8s l := rfl

theorem take_any (g : Nat) (s : St) (n : Int) (w : World) (h : Rdr w g s) :
    Calls Try.prog 79 #[.pointer (some ⟨g, 0, none⟩), .int .i64 n] w fun e w' => ∃ v, e = .returned v ∧ w'.ownsRow w.heap.size 5 1 v (s.next n).1.length (u8s (s.next n).1) ∧ Rdr w' g (s.next n).2 ∧ w.grownBy w' (some g) := by
  have hn := next_any g s n w h
  have hb : (s.next n).1.length ≤ 1000000 := by
    have := h.2
    unfold St.next
    split
    · simp only [List.length_take]; omega
    · simp
  have hg : g < w.heap.size := (Array.getElem?_eq_some_iff.1 h.1).1
  generalize s.next n = r at *
  obtain ⟨t, s'⟩ := r
  dsimp only at hn hb
  have HN := Lib.hid hn
  clear hn
  have hs : (str t).size = t.length := rfl
  go_enter Try.func79, Try.ntmps79
  go_wp2_with (first
    | (go_at_call 89; refine (HN.out).mono ?_; rintro e w1 ⟨rfl, hR, hB⟩; have hz1 := hB.size)
    | (at_make; refine wpL_make rfl _ _ _ rfl (base := w.heap.size) E_u8 t.length rfl rfl (by omega) (by omega) (by omega) (by unfold maxLen; omega) (by omega) ?_; intro w2 hown2 hg2)
    | (refine wpL_cp (o := ⟨some 15, _, _, _, _, _⟩) (y := .string (str t)) rfl (.tmp 13) (.tmp 14) 38 9 rfl E_u8 rfl rfl hown2 (Src.ofString _ Try.underlying9 (str t)) (Nat.le_refl _) ?_; intro w3 hown3 hg3))
  go_ret
  refine ⟨_, rfl, ?_, ?_, ?_⟩
  · rw [byteCells_str, List.drop_of_length_le (by rw [Array.length_toList, size_madeCells, str_size]; exact Nat.le_refl _), List.append_nil] at hown3
    exact hown3
  · exact (hR.kept hg2 (by simp)).kept hg3 (by simp [Value.ownBlock]; omega)
  · exact grownBy_trans (grownBy_trans hB hg2 (.inr fun _ e => by cases e)) hg3 (.inr fun k e => by simp [Value.ownBlock] at e; omega)
theorem take_nil (n : Int) (w : World) : Calls Try.prog 79 #[.pointer none, .int .i64 n] w fun e w' => ∃ v, e = .returned v ∧ w'.ownsRow w.heap.size 5 1 v 0 [] ∧ Below w.heap.size w w' := by
  have hs : (str []).size = 0 := rfl
  go_enter Try.func79, Try.ntmps79
  go_wp2_with (first
    | (go_at_call 89; refine (next_nil _ _).mono ?_; rintro e w1 ⟨rfl, rfl⟩)
    | (at_make; refine wpL_make rfl _ _ _ rfl (base := w.heap.size) E_u8 0 rfl rfl (by omega) (by omega) (by omega) (by unfold maxLen; omega) (by omega) ?_; intro w2 hown2 hg2)
    | (refine wpL_cp (o := ⟨some 15, _, _, _, _, _⟩) (y := .string (str [])) rfl (.tmp 13) (.tmp 14) 38 9 rfl E_u8 rfl rfl hown2 (Src.ofString _ Try.underlying9 (str [])) (Nat.le_refl _) ?_; intro w3 hown3 hg3))
  go_ret
  refine ⟨_, rfl, ?_, ?_⟩
  · rw [byteCells_str, List.drop_of_length_le (by rw [Array.length_toList, size_madeCells, str_size]; exact Nat.le_refl _), List.append_nil] at hown3
    exact hown3
  · exact ((Below.refl _ _).grown hg2 (Nat.le_refl _) (fun k e => by cases e)).grown hg3 hg2.size (fun k e => by simp [Value.ownBlock] at e; omega)

theorem read_any (A : Option Addr) (n c : Nat) (l : List UInt8) (w : World) (h : Rd w w.heap.size 1 A n c (u8s l)) (hn : n ≤ 1000000) :
    Calls Try.prog 72 #[.slice A n c] w fun e w' => ∃ g, e = .returned (.pointer (some ⟨g, 0, none⟩)) ∧ w.heap.size ≤ g ∧ Rdr w' g ⟨l, false⟩ ∧ Below w.heap.size w w' := by
  have hln : l.length = n := by have := h.len; rwa [u8s_len] at this
  have HL := Lib.hid hln
  clear hln
  go_enter Try.func72, Try.ntmps72
  go_wp2_with (refine wpL_str (o := ⟨some 4, _, _, _, _, _⟩) (A := A) (n := n) (c := c) (l := l) rfl (.tmp 3) 38 9 rfl Try.underlying38 Try.underlying5 Try.underlying9 rfl h ?_)
  go_ret
  refine ⟨w.heap.size, rfl, Nat.le_refl _, ⟨heap_alloc_new w _, ?_⟩, (Below.refl _ _).alloc (Nat.le_refl _) _⟩
  rw [HL.out]; exact hn

end Go.Proofs.Ytddnjlnhnnpgiaa

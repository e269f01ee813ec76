/- The document's own Make (keelsonref05). -/
import Derived.Test.YtccfiblkgngecaaFlives
namespace Go.Proofs.Ytccfiblkgngecaa
open Go.RowKit

theorem rev_take (l : List UInt8) (j : Nat) (x : UInt8) (h : l[l.length - 1 - j]? = some x) (hj : j < l.length) : l.reverse.take (j + 1) = l.reverse.take j ++ [x] := by
  have h1 : j < l.reverse.length := by rw [List.length_reverse]; exact hj
  rw [List.take_succ_eq_append_getElem h1]
  congr 2
  rw [List.getElem_reverse]
  obtain ⟨_, h2⟩ := List.getElem?_eq_some_iff.1 h
  exact h2
set_option maxRecDepth 8000 in
theorem turned_any (A : Option Addr) (n c : Nat) (l : List UInt8) (w : World) (h : Rd w w.heap.size 1 A n c (u8s l)) (hn : n ≤ 1000) :
    Calls Try.prog 25 #[.slice A n c] w fun e w' => ∃ v, e = .returned v ∧ w'.ownsRow w.heap.size 5 1 v n (u8s l.reverse) ∧ Below w.heap.size w w' := by
  have hln : l.length = n := by have := h.len; rwa [u8s_len] at this
  have HLN := Lib.hid hln
  clear hln
  have hni : (n : Int) ≤ 1000 := by omega
  go_enter Try.func25, Try.ntmps25
  go_wp2
  go_loopw [3, 4] (fun vr ir wr => ∃ j : Nat, j ≤ n ∧ ir = .int .i64 ((n : Int) - 1 - (j : Int)) ∧ wr.ownsRow w.heap.size 5 1 vr j (u8s (l.reverse.take j)) ∧ Below w.heap.size w wr) (fun _ ir _ => (intOf ir + 1).toNat)
  case atStart => exact ⟨0, Nat.zero_le _, by simp, World.ownsRow_nil _ _ _ _, Below.refl _ _⟩
  case round =>
    obtain ⟨j, hj, rfl, hown, hb⟩ := hrel
    have hz := hb.size
    by_cases hlt : j < n
    · obtain ⟨b, o, u, rfl, hbl, hu, hc⟩ := (h.below hb).at_ (k := n - 1 - j) (by omega)
      obtain ⟨x, hx, rfl⟩ := u8s_get _ _ _ hu
      obtain ⟨i, hi⟩ : ∃ i : Nat, i = n - 1 - j := ⟨_, rfl⟩
      have hii : (n : Int) - 1 - (j : Int) = (i : Int) := by omega
      rw [← hi] at hc hx
      rw [hii]
      have hin : (i : Int) < (n : Int) := by omega
      have HX := Lib.hid hx
      have HI := Lib.hid hi
      have hx0 : (0 : Int) ≤ (x.toNat : Int) := by omega
      clear hu hx hi hii
      go_wp2_with (at_builtin; refine wpL_app rfl _ _ _ _ rfl E_u8 rfl rfl (hown.alloc _) (Src.lit Try.underlying23 _ rfl (by intro u hu; simp at hu; subst hu; rfl)) (by unfold maxLen; omega) (by omega) (by simp; omega) ?_; intro v2 w2 hown2 hg2 hat2)
      go_roundw
      case rel =>
        refine ⟨j + 1, by omega, by have := HI.out; go_num, ?_, (hb.alloc hz _).grown hg2 (by simp; omega) (fun k e => (hown.lt k e).1)⟩
        rw [rev_take l j x (by rw [HLN.out, ← HI.out]; exact HX.out) (by rw [HLN.out]; exact hlt), u8s_app]
        exact hown2
      case measure => first | (simp [intOf]; done) | (simp [intOf]; omega)
    · obtain rfl : j = n := by omega
      have hneg : (j : Int) - 1 - (j : Int) = -1 := by omega
      rw [hneg]
      rw [List.take_of_length_le (by rw [List.length_reverse, HLN.out]; exact Nat.le_refl _)] at hown
      go_wp2
      go_ret
      exact ⟨_, rfl, hown, hb⟩

/-- A piece of which k bytes are laid. -/
def laid (t : List UInt8) (k : Nat) : List UInt8 := t.take k ++ List.replicate (48 - k) 0
theorem laid_put (t : List UInt8) (k : Nat) (x : UInt8) (hk : k < 48) (h : t[k]? = some x) : (u8s (laid t k)).toArray.setIfInBounds k (u8 x) = (u8s (laid t (k + 1))).toArray := by
  obtain ⟨hl, rfl⟩ := List.getElem?_eq_some_iff.1 h
  apply Array.ext'
  rw [Array.toList_setIfInBounds]
  have e1 : (t.take k).length = k := by rw [List.length_take]; omega
  have e2 : laid t k = t.take k ++ 0 :: List.replicate (48 - (k + 1)) 0 := by
    rw [laid, show 48 - k = 48 - (k + 1) + 1 from by omega, List.replicate_succ]
  have e3 : laid t (k + 1) = t.take k ++ t[k] :: List.replicate (48 - (k + 1)) 0 := by
    rw [laid, List.take_succ_eq_append_getElem hl, List.append_assoc]
    rfl
  rw [e2, e3]
  simp only [u8s, List.map_append, List.map_cons]
  rw [List.set_append, if_neg (by rw [List.length_map, e1]; omega), List.length_map, e1, Nat.sub_self]
  rfl
theorem laid_zero (t : List UInt8) : laid t 0 = List.replicate 48 0 := by simp [laid]
theorem laid_end (x : List UInt8) (k i K : Nat) (hx : x.length ≤ k * 48) (hi : i < k) (hK : K = min 48 (x.length - 48 * i)) : laid (x.drop (48 * i)) K = ((x ++ List.replicate (k * 48 - x.length) 0).drop (48 * i)).take 48 := by
  rcases Nat.lt_or_ge (48 * i) x.length with h | h
  · rw [List.drop_append_of_le_length (by omega)]
    rcases Nat.lt_or_ge (x.length - 48 * i) 48 with h2 | h2
    · have hl : (x.drop (48 * i)).length = K := by rw [List.length_drop]; omega
      rw [laid, List.take_of_length_le (by omega), List.take_append, List.take_of_length_le (by omega), List.take_replicate, hl]
      congr 2
      omega
    · obtain rfl : K = 48 := by omega
      rw [List.take_append_of_le_length (by rw [List.length_drop]; omega), laid]
      simp
  · obtain rfl : K = 0 := by omega
    rw [laid_zero, List.drop_append, List.drop_of_length_le (by omega), List.nil_append, List.drop_replicate, List.take_replicate]
    congr 1
    omega

end Go.Proofs.Ytccfiblkgngecaa

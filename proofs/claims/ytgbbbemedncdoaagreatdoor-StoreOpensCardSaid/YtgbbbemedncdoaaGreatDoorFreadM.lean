/- frame.Read. -/
import Derived.Test.YtgbbbemedncdoaaGreatDoorFjoinbZM
namespace Go.Proofs.YtgbbbemedncdoaaGreatDoor
set_option maxRecDepth 20000
open Go.RowKit

def hasNZ (l : List UInt8) : Bool := l.any fun x => x != 0
theorem isNZ_any (x : UInt8) (w : World) : Calls Tryz.prog 144 #[.int .u8 (x.toNat : Int)] w fun e w' => e = .returned (.bool (x != 0)) ∧ w = w' := by
  by_cases h : x = 0
  · subst h
    go_enter Tryz.func144, Tryz.ntmps144
    go_wp2
    go_ret
    exact ⟨rfl, rfl⟩
  · have h1 : (x != 0) = true := by simpa using h
    have h2 : ((x.toNat : Int) != 0) = true := by
      have : x.toNat ≠ 0 := fun e => h (UInt8.toNat_inj.1 e)
      simp; omega
    rw [h1]
    clear h1 h
    go_enter Tryz.func144, Tryz.ntmps144
    go_wp2
    go_ret
    exact ⟨rfl, rfl⟩
theorem index_any (A : Option Addr) (n c B : Nat) (l : List UInt8) (w : World) (h : Rd w B 1 A n c (u8s l)) (hn : n ≤ 1000000) :
    Calls Tryz.prog 148 #[.slice A n c, .func (.func 144) #[] #[]] w fun e w' => ∃ r : Int, e = .returned (.int .i64 r) ∧ ((hasNZ l = false ∧ r = -1) ∨ (hasNZ l = true ∧ 0 ≤ r ∧ r ≤ 1000000)) ∧ w = w' := by
  have hln : l.length = n := by have := h.len; rwa [u8s_len] at this
  have HLN := Lib.hid hln
  clear hln
  go_enter Tryz.func148, Tryz.ntmps148
  go_wp2
  go_loop [8] (fun ir => ∃ i : Nat, i ≤ n ∧ ir = .int .i64 (i : Int) ∧ Hid (hasNZ (l.take i) = false)) (fun ir => n - (intOf ir).toNat)
  case atStart => exact ⟨0, Nat.zero_le _, rfl, Lib.hid rfl⟩
  case round =>
    obtain ⟨i, hi, rfl, hz⟩ := hrel
    by_cases hlt : i < n
    · obtain ⟨b, o, u, rfl, hbl, hu, hc⟩ := h.at_ hlt
      obtain ⟨x, hx, rfl⟩ := u8s_get _ _ _ hu
      obtain ⟨q, hq⟩ : ∃ q, q = (x != 0) := ⟨_, rfl⟩
      have hX := isNZ_any x w
      rw [← hq] at hX
      have HXX := Lib.hid hX
      have HX := Lib.hid hx
      have HQ := Lib.hid hq
      have hx0 : (0 : Int) ≤ (x.toNat : Int) := by omega
      clear hX hx hq hu
      cases q
      · have hz2 : Hid (hasNZ (l.take (i + 1)) = false) := Lib.hid (by
          obtain ⟨hil, hxe⟩ := List.getElem?_eq_some_iff.1 HX.out
          have h1 := hz.out
          unfold hasNZ at h1 ⊢
          rw [List.take_succ_eq_append_getElem hil, List.any_append, h1, hxe]
          simp only [List.any_cons, List.any_nil, ← HQ.out, Bool.or_self])
        go_wp2_with (go_at_call 144; refine HXX.out.mono ?_; rintro e w1 ⟨rfl, rfl⟩)
        go_round
        case rel => exact ⟨i + 1, by omega, by go_num, hz2⟩
        case measure => simp [intOf]; omega
      · have hl : hasNZ l = true := by
          unfold hasNZ
          rw [List.any_eq_true]
          exact ⟨x, List.mem_of_getElem? HX.out, HQ.out.symm⟩
        have HLL := Lib.hid hl
        clear hl
        go_wp2_with (go_at_call 144; refine HXX.out.mono ?_; rintro e w1 ⟨rfl, rfl⟩)
        go_ret
        exact ⟨_, rfl, .inr ⟨HLL.out, by omega, by omega⟩, rfl⟩
    · obtain rfl : i = n := by omega
      rw [List.take_of_length_le (by rw [HLN.out]; exact Nat.le_refl _)] at hz
      go_wp2
      go_ret
      exact ⟨_, rfl, .inl ⟨hz.out, rfl⟩, rfl⟩
theorem contains_any (A : Option Addr) (n c B : Nat) (l : List UInt8) (w : World) (h : Rd w B 1 A n c (u8s l)) (hn : n ≤ 1000000) :
    Calls Tryz.prog 143 #[.slice A n c, .func (.func 144) #[] #[]] w fun e w' => e = .returned (.bool (hasNZ l)) ∧ w = w' := by
  have hI := index_any A n c B l w h hn
  have HI := Lib.hid hI
  clear hI
  generalize hasNZ l = q at *
  cases q
  · go_enter Tryz.func143, Tryz.ntmps143
    go_wp2_with (go_at_call 148; refine HI.out.mono ?_; rintro e w1 ⟨r, rfl, hr, rfl⟩; obtain rfl : r = -1 := by rcases hr with ⟨_, h⟩ | ⟨h, _⟩ <;> first | exact h | exact absurd h (by decide))
    go_ret
    exact ⟨rfl, rfl⟩
  · go_enter Tryz.func143, Tryz.ntmps143
    go_wp2_with (go_at_call 148; refine HI.out.mono ?_; rintro e w1 ⟨r, rfl, hr, rfl⟩; have hr0 : 0 ≤ r := by rcases hr with ⟨h, _⟩ | ⟨_, h, _⟩ <;> first | exact h | exact absurd h (by decide))
    go_ret
    exact ⟨rfl, rfl⟩

def openedOf (body : List UInt8) (n : Nat) : List UInt8 × Int :=
  if (openOf (body.take (n + 8))).2 ≠ 0 then ([], (openOf (body.take (n + 8))).2) else if hasNZ (body.drop (n + 8)) then ([], 10) else ((openOf (body.take (n + 8))).1.drop 4, 0)
theorem openOf_len (l : List UInt8) (h : (openOf l).2 = 0) : (openOf l).1.length = l.length - 4 ∧ 4 ≤ l.length := by
  unfold openOf at h ⊢
  split at h
  · cases h
  · rename_i h4
    rw [if_neg h4]
    split at h
    · rename_i hs
      rw [if_pos hs]
      simp only [List.length_take]
      omega
    · cases h

set_option maxHeartbeats 4000000 in
set_option maxRecDepth 8000 in
theorem opened_any (A : Option Addr) (N c n : Nat) (body : List UInt8) (w : World) (h : Rd w w.heap.size 1 A N c (u8s body)) (hN : N ≤ 500000) (hn : n + 8 ≤ N) :
    Calls Tryz.prog 129 #[.slice A N c, .int .i64 (n : Int)] w (Tells w (openedOf body n).1 (openedOf body n).2) := by
  have hlN : body.length = N := by have := h.len; rwa [u8s_len] at this
  obtain ⟨b, o, rfl, hbl, hcell⟩ := h.2.2.2 (by omega)
  have hNc := h.1
  have h1 := h.pre (k := n + 8) hn
  rw [← u8s_take] at h1
  have h2 := h.cut (k := n + 8) (m := N - (n + 8)) (by omega)
  rw [List.take_of_length_le (by rw [List.length_drop, h.len]; omega), ← u8s_drop, Option.map_some, addOff] at h2
  have hO := open_any _ _ _ _ w h1 (by omega)
  have hlen := openOf_len (body.take (n + 8))
  rw [List.length_take] at hlen
  have hS := sealedLen_any (n : Int)
  have hsi : (4 : Int) + (n : Int) + 4 = ((n + 8 : Nat) : Int) := by omega
  unfold openedOf
  generalize body.take (n + 8) = b1 at *
  generalize body.drop (n + 8) = b2 at *
  generalize openOf b1 = r at *
  obtain ⟨t, E⟩ := r
  dsimp only at hO hlen ⊢
  have HO := Lib.hid hO
  have HS := Lib.hid (fun w => by have := hS w (by omega) (by omega); rw [hsi] at this; exact this)
  have H2 := Lib.hid h2
  have HLEN := Lib.hid hlen
  have hni : ((n + 8 : Nat) : Int) ≤ (N : Int) := by omega
  have hci : ((n + 8 : Nat) : Int) ≤ (c : Int) := by omega
  have HN := Lib.hid hN
  have HNN := Lib.hid hn
  have HBL := Lib.hid hlN
  have hA2 : c = n + 8 → Rd w w.heap.size 1 (some ⟨b, o, none⟩) (N - (n + 8)) 0 (u8s b2) := by
    intro e
    have e1 : N - (n + 8) = 0 := by omega
    have e2 : u8s b2 = [] := List.eq_nil_of_length_eq_zero (by rw [h2.len]; exact e1)
    rw [e1, e2]
    exact Rd.empty (Nat.zero_le _)
  have HA2 := Lib.hid hA2
  clear hA2
  clear hO hS h2 hlen h1 hcell h hlN hsi hN
  obtain ⟨M, hM⟩ : ∃ M, M = n + 8 := ⟨_, rfl⟩
  rw [← hM] at HO HS H2 HA2 hni hci HLEN HNN hn
  have HMM := Lib.hid hM
  clear hM
  by_cases hE : E = 0
  · subst hE
    rw [if_neg (by decide)]
    cases hq : hasNZ b2 with
    | true =>
      have HQ := Lib.hid hq
      clear hq
      rw [if_pos rfl]
      go_enter Tryz.func129, Tryz.ntmps129
      go_wp2_with (first
        | (go_at_call 109; refine (HS.out _).mono ?_; rintro e w0 ⟨rfl, rfl⟩)
        | (go_at_call 142; refine HO.out.mono ?_; rintro e w1 ⟨A1, n1, c1, rfl, hn1, hr1, hb1⟩)
        | (go_at_call 143; first
            | (refine (contains_any _ _ _ w.heap.size b2 _ (H2.out.below hb1) (by have := HN.out; omega)).mono ?_; rw [HQ.out]; rintro e w2 ⟨rfl, rfl⟩)
            | (refine (contains_any _ _ _ w.heap.size b2 _ ((HA2.out (by omega)).below hb1) (by have := HN.out; omega)).mono ?_; rw [HQ.out]; rintro e w2 ⟨rfl, rfl⟩))
        | fail)
      all_goals go_ret2
      all_goals exact ⟨none, 0, 0, rfl, rfl, Rd.nil_, hb1⟩
    | false =>
      have HQ := Lib.hid hq
      clear hq
      rw [if_neg (by decide)]
      obtain ⟨hl1, hl2⟩ := HLEN.out rfl
      have hl3 : t.length = n + 4 := by have := HMM.out; have := HNN.out; have := HBL.out; omega
      have HL3 := Lib.hid hl3
      clear hl1 hl2 hl3
      go_enter Tryz.func129, Tryz.ntmps129
      go_wp2_with (first
        | (go_at_call 109; refine (HS.out _).mono ?_; rintro e w0 ⟨rfl, rfl⟩)
        | (go_at_call 142; refine HO.out.mono ?_; rintro e w1 ⟨A1, n1, c1, rfl, hn1, hr1, hb1⟩
           have hn4 : n1 = n + 4 := hn1.trans HL3.out
           subst hn4
           obtain ⟨b3, o3, rfl, hb3, hc3⟩ := hr1.2.2.2 (by omega)
           have hnc3 := hr1.1
           have hr4 := hr1.cut (k := 4) (m := n) (by omega)
           rw [List.take_of_length_le (by rw [List.length_drop, hr1.len]; omega), ← u8s_drop, Option.map_some, addOff] at hr4
           have hr5 : c1 = 4 → Rd w1 w1.heap.size 1 (some ⟨b3, o3, none⟩) n 0 (u8s (t.drop 4)) := by
             intro e
             have e1 : n = 0 := by omega
             have e2 : u8s (t.drop 4) = [] := List.eq_nil_of_length_eq_zero (by rw [hr4.len]; exact e1)
             rw [e1, e2]
             exact Rd.empty (Nat.zero_le _)
           have HR5 := Lib.hid hr5
           have HR4 := Lib.hid hr4
           clear hr5
           clear hr4 hc3 hn1)
        | (go_at_call 143; first
            | (refine (contains_any _ _ _ w.heap.size b2 _ (H2.out.below hb1) (by have := HN.out; omega)).mono ?_; rw [HQ.out]; rintro e w2 ⟨rfl, rfl⟩)
            | (refine (contains_any _ _ _ w.heap.size b2 _ ((HA2.out (by omega)).below hb1) (by have := HN.out; omega)).mono ?_; rw [HQ.out]; rintro e w2 ⟨rfl, rfl⟩))
        | fail)
      all_goals go_ret2
      all_goals have hle : n = (t.drop 4).length := by rw [List.length_drop, HL3.out]; omega
      all_goals first
        | exact ⟨_, n, _, rfl, hle, HR4.out, hb1⟩
        | exact ⟨_, n, _, rfl, hle, HR5.out (by omega), hb1⟩
  · have q0 : (E != 0) = true := by simpa using hE
    rw [if_pos hE]
    go_enter Tryz.func129, Tryz.ntmps129
    go_wp2_with (first
      | (go_at_call 109; refine (HS.out _).mono ?_; rintro e w0 ⟨rfl, rfl⟩)
      | (go_at_call 142; refine HO.out.mono ?_; rintro e w1 ⟨A1, n1, c1, rfl, hn1, hr1, hb1⟩)
      | fail)
    go_ret2
    exact ⟨none, 0, 0, rfl, rfl, Rd.nil_, hb1⟩

end Go.Proofs.YtgbbbemedncdoaaGreatDoor

/- slices.Sorted of a map's keys. -/
import Derived.Test.YtjhakplaffgkpaaDoorWsrtM
import Derived.Test.YtjhakplaffgkpaaDoorWnewM
namespace Go.Proofs.YtjhakplaffgkpaaDoor
open Go.RowKit
attribute [local go_sem] Oper.semAt_some

/-- The keys above lo, one by one. -/
def keysOf (lo : Nat) (f : SaysW) : List Nat := (List.range' (lo + 1) 192).filter fun x => (f x).isSome
theorem keysOf_nodup (lo : Nat) (f : SaysW) : (keysOf lo f).Nodup := (List.nodup_range' (step := 1)).filter _
theorem keysOf_sorted (lo : Nat) (f : SaysW) : (keysOf lo f).Pairwise fun x y => x ≤ y := ((List.pairwise_lt_range' (s := lo + 1) (n := 192) (step := 1)).imp (fun h => Nat.le_of_lt h)).filter _
theorem keysOf_len (lo : Nat) (f : SaysW) : (keysOf lo f).length ≤ 192 := Nat.le_trans (List.length_filter_le _ _) (by simp)
theorem keys_perm {lo : Nat} {f : SaysW} {ss : List Nat} (hk : ∀ x s, f x = some s → lo < x ∧ x ≤ lo + 192 ∧ s < 18446744073709551616) (h : ss.Nodup ∧ ∀ x, x ∈ ss ↔ (f x).isSome = true) : ss.Perm (keysOf lo f) := by
  refine (List.perm_ext_iff_of_nodup h.1 (keysOf_nodup lo f)).2 fun x => ?_
  rw [h.2 x]
  unfold keysOf
  rw [List.mem_filter, List.mem_range'_1]
  constructor
  · intro hx
    obtain ⟨s, hs⟩ := Option.isSome_iff_exists.1 hx
    have := hk x s hs
    exact ⟨by omega, hx⟩
  · exact fun hx => hx.2
theorem keys_sorted {lo : Nat} {f : SaysW} {ss : List Nat} (hk : ∀ x s, f x = some s → lo < x ∧ x ≤ lo + 192 ∧ s < 18446744073709551616) (h : ss.Nodup ∧ ∀ x, x ∈ ss ↔ (f x).isSome = true) : Qu.srt64 ss = keysOf lo f := by
  refine List.Perm.eq_of_pairwise (le := fun a b => a ≤ b) (fun a b _ _ h1 h2 => Nat.le_antisymm h1 h2) (Qu.srt_pair ss) (keysOf_sorted lo f) ((Qu.srt_perm ss).trans (keys_perm hk h))
theorem rd_of_arr {w : World} {g n c : Nat} {l : List Nat} (h : Qu.Arr w g l.toArray) (hl : l.length = n) (hnc : n ≤ c) (hc : c ≤ maxLen) : Rd w w.heap.size 1 (some ⟨g, 0, none⟩) n c (u64s l) := by
  refine ⟨hnc, hc, by simp [u64s, hl], fun _ => ⟨g, 0, rfl, h.here, fun j u hu => ?_⟩⟩
  unfold u64s at hu
  rw [List.getElem?_map] at hu
  cases hx : l[j]? with
  | none => rw [hx] at hu; cases hu
  | some x =>
    rw [hx] at hu
    obtain rfl := Option.some.inj hu
    obtain ⟨hlt, hxe⟩ := List.getElem?_eq_some_iff.1 hx
    have := h.cell j (by simpa using hlt)
    rw [Nat.zero_add, this]
    simp [hlt, hxe]

/-- What tells numbers in a row of its own. -/
def TellsN (w : World) (l : List Nat) (e : Ending) (w' : World) : Prop := ∃ A c, e = .returned (.slice A l.length c) ∧ Rd w' w'.heap.size 1 A l.length c (u64s l) ∧ (∀ b o, A = some ⟨b, o, none⟩ → w.heap.size ≤ b) ∧ Below w.heap.size w w'
set_option maxHeartbeats 4000000 in
set_option maxRecDepth 8000 in
theorem sorted_any (Bm b m lo : Nat) (f : SaysW) (hk : ∀ x s, f x = some s → lo < x ∧ x ≤ lo + 192 ∧ s < 18446744073709551616) (hm6 : m ≤ 1000000) (w : World) (hBm : Bm < w.heap.size) (hm : w.cell? ⟨Bm, 0, none⟩ = some (.map (some b))) (hM : MapW Tryd.prog 22 w b m f) :
    Calls Tryd.prog 28 #[.func (.func 42) #[] #[.pointer (some ⟨Bm, 0, none⟩)]] w (TellsN w (keysOf lo f)) := by
  have HC := Lib.hid (collect_in 9 (by omega) 42 #[.pointer (some ⟨Bm, 0, none⟩)] (enters_of Tryd.func42 (by kernel_rfl) rfl) _ _ m hm6 w (keys_in 7 (by omega) Bm b m f w hBm hm hM))
  have HS := Lib.hid (fun (ss : List Nat) (h : ss.Nodup ∧ ∀ x, x ∈ ss ↔ (f x).isSome = true) => keys_sorted hk h)
  have HP := Lib.hid (fun (ss : List Nat) (h : ss.Nodup ∧ ∀ x, x ∈ ss ↔ (f x).isSome = true) => (keys_perm hk h).length_eq)
  clear hk hm hM hBm hm6
  refine (callsIn_wide (n := 10)).1 ?_
  refine callsIn_of_wp Tryd.func28 rfl trivial ?_ rfl
  simp only [Tryd.ntmps28, List.size_toArray, List.length_nil, List.length_cons, Nat.reduceAdd, Nat.reduceSub, Array.replicate_succ, Array.replicate_zero, List.push_toArray, List.append_toArray, List.nil_append, List.cons_append]
  gi_wp2
  refine ⟨trivial, HC.out.mono ?_⟩
  rintro e w2 ⟨A, c, ss, rfl, hS, ho, hb⟩
  have hlen := HP.out ss hS
  have hl192 : ss.length ≤ 192 := by have := keysOf_len lo f; omega
  have HB := Lib.hid hb
  have HSS := Lib.hid (HS.out ss hS)
  have hrd := ownsRow_rd ho
  rcases ho.2 with ⟨hv, hz⟩ | ⟨g, cap, cur, hv, hbg, hg, hnc, hcm, hcs, htake⟩
  · have h0 : ss.length = 0 := hz
    have he : ss = [] := List.eq_nil_of_length_eq_zero h0
    subst he
    have HQ := Lib.hid (Qu.sort_none A c w2)
    have HRD := Lib.hid hrd
    obtain rfl : A = none := by injection hv
    have hke : keysOf lo f = [] := by rw [← HSS.out]; exact List.eq_nil_of_length_eq_zero (by rw [Qu.srt_len]; rfl)
    have HKE := Lib.hid hke
    clear hb ho hrd hv hz hlen hl192 hS h0 HSS hke
    gi_wp2
    refine ⟨trivial, (callsIn_wide.2 HQ.out).mono ?_⟩
    rintro e w3 ⟨rfl, rfl⟩
    gi_wp2
    go_ret
    rw [HKE.out]
    exact ⟨none, c, rfl, HRD.out, (fun b o e => by cases e), HB.out⟩
  · obtain ⟨rfl, hc'⟩ : A = some ⟨g, 0, none⟩ ∧ c = cap := by injection hv with h1 h2 h3; exact ⟨h1, h3⟩
    subst hc'
    have hA := Qu.arr_own (l := ss) rfl ho
    have HQ := Lib.hid (Qu.sort64_any (c := c) hA (by simp) (show ss.length ≤ 199 by omega))
    have HLN := Lib.hid hlen
    have HNC := Lib.hid (And.intro hnc hcm)
    have HG := Lib.hid hbg
    clear hb ho hrd hv hlen hl192 hS hA hg hnc hcm hcs htake hbg
    gi_wp2
    refine ⟨trivial, (callsIn_wide.2 HQ.out).mono ?_⟩
    rintro e w3 ⟨rfl, ha, ht⟩
    have HA := Lib.hid ha
    have HT := Lib.hid ht
    clear ha ht
    gi_wp2
    go_ret
    rw [HLN.out]
    refine ⟨_, c, rfl, ?_, (fun b o e => by cases e; exact HG.out), HB.out.grown HT.out HB.out.size (fun k e => by have := HG.out; have := Option.some.inj e; omega)⟩
    have h2 := HA.out
    unfold Qu.S64 at h2
    rw [show (ss.toArray.toList) = ss from rfl, HSS.out] at h2
    exact rd_of_arr h2 rfl (by have := HNC.out.1; have := HLN.out; omega) HNC.out.2
end Go.Proofs.YtjhakplaffgkpaaDoor

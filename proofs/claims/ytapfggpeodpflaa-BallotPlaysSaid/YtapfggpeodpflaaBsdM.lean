/- The keys of no map. slices.Sorted of a map's keys. -/
import Derived.Test.YtapfggpeodpflaaBkeysM
import Derived.Laws.IdiomRangeMap
import Derived.Test.YtapfggpeodpflaaBsrtM
namespace Go.Proofs.Ytapfggpeodpflaa
open Go.RowKit Go.Maps

theorem grown_of {w w' : World} (h : Below w.heap.size w w') : w.grownBy w' none := ⟨h.os, h.tape, h.output, h.size, fun i hi _ => h.block i hi⟩
set_option maxRecDepth 100000 in
set_option maxHeartbeats 1000000 in
theorem keys_nil (n : Nat) (hn : 1 ≤ n) (Bm : Nat) (w : World) (hBm : Bm < w.heap.size) (hm : w.cell? ⟨Bm, 0, none⟩ = some (.map none)) :
    SeqStopsA Fence.wide n Try.prog 37 #[.pointer (some ⟨Bm, 0, none⟩)] encB (fun ss => ss.Nodup ∧ ∀ x : Nat, x ∈ ss ↔ ((fun _ => none : SaysB) x).isSome = true) (fun _ => True) 0 w := fun l J Jx W hW hJ _ hY h0 => by
  have hm' := (hW.cell (p := ⟨Bm, 0, none⟩) hBm).trans hm
  have hrn := run_range_nilMap (P := Try.prog) W 44 3 23 Try.underlying44
  have hnn := fun ty => run_next_nilMap (P := Try.prog) W ty 0 0 #[]
  have HJ := Lib.hid (hJ [] W (W.alloc (.mapIter none 0 #[] 0)) none h0 ((Below.refl W.heap.size W).alloc (Nat.le_refl _) _ |> grown_of) (fun r e => by cases e))
  clear hm hBm hY h0 hJ
  refine callsIn_of_wp Try.func37 rfl trivial ?_ rfl
  simp only [Try.ntmps37, List.size_toArray, List.length_cons, List.length_nil, Nat.reduceAdd, Nat.reduceSub, Array.replicate_succ, Array.replicate_zero, List.push_toArray, List.append_toArray, List.nil_append, List.cons_append]
  gi_wp2
  try go_frame
  gi_loopw [3] (fun _ wr => wr = W.alloc (.mapIter none 0 #[] 0)) (fun _ _ => 0)
  case atStart => rfl
  case round =>
    subst hrel
    gi_wp2
    go_end0
    exact ⟨⟨_, rfl⟩, .inl ⟨[], ⟨List.nodup_nil, fun x => by simp⟩, HJ.out⟩⟩
end Go.Proofs.Ytapfggpeodpflaa

namespace Go.Proofs.Ytapfggpeodpflaa
open Go.RowKit
attribute [local go_sem] Oper.semAt_some

/-- The nodes that a map has, one by one. -/
def keysOf (f : SaysB) : List Nat := (List.range 7).filter fun x => (f x).isSome
theorem keysOf_nodup (f : SaysB) : (keysOf f).Nodup := List.nodup_range.filter _
theorem keysOf_sorted (f : SaysB) : (keysOf f).Pairwise fun x y => x ≤ y := (List.pairwise_lt_range.imp (fun h => Nat.le_of_lt h)).filter _
theorem keysOf_len (f : SaysB) : (keysOf f).length ≤ 7 := Nat.le_trans (List.length_filter_le _ _) (by simp)
theorem keys_perm {f : SaysB} {ss : List Nat} (hk : ∀ x, (f x).isSome = true → x < 7) (h : ss.Nodup ∧ ∀ x, x ∈ ss ↔ (f x).isSome = true) : ss.Perm (keysOf f) := by
  refine (List.perm_ext_iff_of_nodup h.1 (keysOf_nodup f)).2 fun x => ?_
  rw [h.2 x]
  unfold keysOf
  rw [List.mem_filter, List.mem_range]
  exact ⟨fun hx => ⟨hk x hx, hx⟩, fun hx => hx.2⟩
theorem keys_sorted {f : SaysB} {ss : List Nat} (hk : ∀ x, (f x).isSome = true → x < 7) (h : ss.Nodup ∧ ∀ x, x ∈ ss ↔ (f x).isSome = true) : Qu.srt64 ss = keysOf f := by
  refine List.Perm.eq_of_pairwise (le := fun a b => a ≤ b) (fun a b _ _ h1 h2 => Nat.le_antisymm h1 h2) (Qu.srt_pair ss) (keysOf_sorted f) ((Qu.srt_perm ss).trans (keys_perm hk h))
theorem rd_of_arr {w : World} {g n c : Nat} {l : List Nat} (h : Qu.Arr w g l.toArray) (hl : l.length = n) (hnc : n ≤ c) (hc : c ≤ maxLen) : Rd w w.heap.size 1 (some ⟨g, 0, none⟩) n c (ins l) := by
  refine ⟨hnc, hc, by rw [ins_len]; omega, fun _ => ⟨g, 0, rfl, h.here, fun j u hu => ?_⟩⟩
  unfold ins at hu
  rw [List.getElem?_map] at hu
  cases hx : l[j]? with
  | none => rw [hx] at hu; cases hu
  | some x =>
    rw [hx] at hu
    obtain rfl := Option.some.inj hu
    obtain ⟨hlt, hxe⟩ := List.getElem?_eq_some_iff.1 hx
    have := h.cell j (by simpa using hlt)
    rw [Nat.zero_add, this]
    simp [hlt, hxe]

/-- What tells numbers in a row of its own. -/
def TellsN (w : World) (l : List Nat) (e : Ending) (w' : World) : Prop := ∃ A c, e = .returned (.slice A l.length c) ∧ Rd w' w'.heap.size 1 A l.length c (ins l) ∧ (∀ b o, A = some ⟨b, o, none⟩ → w.heap.size ≤ b) ∧ Below w.heap.size w w'
set_option maxHeartbeats 4000000 in
set_option maxRecDepth 8000 in
theorem sorted_of (Bm m : Nat) (f : SaysB) (hk : ∀ x, (f x).isSome = true → x < 7) (hm6 : m ≤ 1000000) (w : World)
    (hK : SeqStopsA Fence.wide 7 Try.prog 37 #[.pointer (some ⟨Bm, 0, none⟩)] encB (fun ss => ss.Nodup ∧ ∀ x : Nat, x ∈ ss ↔ (f x).isSome = true) (fun _ => True) m w) :
    Calls Try.prog 23 #[.func (.func 37) #[] #[.pointer (some ⟨Bm, 0, none⟩)]] w (TellsN w (keysOf f)) := by
  have HC := Lib.hid (collect_in 9 (by omega) 37 #[.pointer (some ⟨Bm, 0, none⟩)] (enters_of Try.func37 (by kernel_rfl) rfl) _ _ m hm6 w hK)
  have HS := Lib.hid (fun (ss : List Nat) (h : ss.Nodup ∧ ∀ x, x ∈ ss ↔ (f x).isSome = true) => keys_sorted hk h)
  have HP := Lib.hid (fun (ss : List Nat) (h : ss.Nodup ∧ ∀ x, x ∈ ss ↔ (f x).isSome = true) => (keys_perm hk h).length_eq)
  clear hk hK hm6
  refine (callsIn_wide (n := 10)).1 ?_
  refine callsIn_of_wp Try.func23 rfl trivial ?_ rfl
  simp only [Try.ntmps23, List.size_toArray, List.length_nil, List.length_cons, Nat.reduceAdd, Nat.reduceSub, Array.replicate_succ, Array.replicate_zero, List.push_toArray, List.append_toArray, List.nil_append, List.cons_append]
  gi_wp2
  refine ⟨trivial, HC.out.mono ?_⟩
  rintro e w2 ⟨A, c, ss, rfl, hS, ho, hb⟩
  have hlen := HP.out ss hS
  have hl192 : ss.length ≤ 7 := by have := keysOf_len f; omega
  have HB := Lib.hid hb
  have HSS := Lib.hid (HS.out ss hS)
  have hrd := ownsRow_rd ho
  rcases ho.2 with ⟨hv, hz⟩ | ⟨g, cap, cur, hv, hbg, hg, hnc, hcm, hcs, htake⟩
  · have h0 : ss.length = 0 := hz
    have he : ss = [] := List.eq_nil_of_length_eq_zero h0
    subst he
    have HQ := Lib.hid (Qu.sort_none A c w2)
    have HRD := Lib.hid hrd
    obtain rfl : A = none := by injection hv
    have hke : keysOf f = [] := by rw [← HSS.out]; exact List.eq_nil_of_length_eq_zero (by rw [Qu.srt_len]; rfl)
    have HKE := Lib.hid hke
    clear hb ho hrd hv hz hlen hl192 hS h0 HSS hke
    gi_wp2
    refine ⟨trivial, (callsIn_wide.2 HQ.out).mono ?_⟩
    rintro e w3 ⟨rfl, rfl⟩
    gi_wp2
    go_ret
    rw [HKE.out]
    exact ⟨none, c, rfl, HRD.out, (fun b o e => by cases e), HB.out⟩
  · obtain ⟨rfl, hc'⟩ : A = some ⟨g, 0, none⟩ ∧ c = cap := by injection hv with h1 h2 h3; exact ⟨h1, h3⟩
    subst hc'
    have hA := Qu.arr_own (l := ss) rfl ho
    have HQ := Lib.hid (Qu.sort20_any (c := c) hA (by simp) (show ss.length ≤ 12 by omega))
    have HLN := Lib.hid hlen
    have HNC := Lib.hid (And.intro hnc hcm)
    have HG := Lib.hid hbg
    clear hb ho hrd hv hlen hl192 hS hA hg hnc hcm hcs htake hbg
    gi_wp2
    refine ⟨trivial, (callsIn_wide.2 HQ.out).mono ?_⟩
    rintro e w3 ⟨rfl, ha, ht⟩
    have HA := Lib.hid ha
    have HT := Lib.hid ht
    clear ha ht
    gi_wp2
    go_ret
    rw [HLN.out]
    refine ⟨_, c, rfl, ?_, (fun b o e => by cases e; exact HG.out), HB.out.grown HT.out HB.out.size (fun k e => by have := HG.out; have := Option.some.inj e; omega)⟩
    have h2 := HA.out
    rw [Qu.S20_eq] at h2
    unfold Qu.S64 at h2
    rw [show (ss.toArray.toList) = ss from rfl, HSS.out] at h2
    exact rd_of_arr h2 rfl (by have := HNC.out.1; have := HLN.out; omega) HNC.out.2
theorem sorted_any (Bm b m : Nat) (f : SaysB) (hk : ∀ x, (f x).isSome = true → x < 7) (hm6 : m ≤ 1000000) (w : World) (hBm : Bm < w.heap.size) (hm : w.cell? ⟨Bm, 0, none⟩ = some (.map (some b))) (hM : MapB Try.prog 3 w b m f) :
    Calls Try.prog 23 #[.func (.func 37) #[] #[.pointer (some ⟨Bm, 0, none⟩)]] w (TellsN w (keysOf f)) :=
  sorted_of Bm m f hk hm6 w (keys_in 7 (by omega) Bm b m f w hBm hm hM)
theorem sorted_nil (Bm : Nat) (w : World) (hBm : Bm < w.heap.size) (hm : w.cell? ⟨Bm, 0, none⟩ = some (.map none)) :
    Calls Try.prog 23 #[.func (.func 37) #[] #[.pointer (some ⟨Bm, 0, none⟩)]] w (TellsN w []) :=
  sorted_of Bm 0 (fun _ => none) (fun _ h => by cases h) (by omega) w (keys_nil 7 (by omega) Bm w hBm hm)
end Go.Proofs.Ytapfggpeodpflaa

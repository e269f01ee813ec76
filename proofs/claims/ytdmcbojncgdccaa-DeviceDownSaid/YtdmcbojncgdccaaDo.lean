/- A call, both ways: the parts. -/
import Derived.Test.YtdmcbojncgdccaaRwrite
import Derived.Test.YtdmcbojncgdccaaRowkitc
namespace Go.Proofs.Ytdmcbojncgdccaa
open Go.RowKit

/-- What a write leaves of a device, whatever is asked. -/
def Dv.wrote (d : Dv) (x : Int) (l : List UInt8) : Dv := if d.down = true then d else if withinB d.n x (((l.length : Int) + 63) / 64) = true then (d.write x l ((l.length + 63) / 64)).1 else d
def Rv.wrote (r : Rv) (x : Int) (l : List UInt8) : Rv := if r.down = true then r else if withinB r.n x (((l.length : Int) + 63) / 64) = true then (r.write x l ((l.length + 63) / 64)).1 else r
/-- What a call leaves of a device. -/
def Dleft (w : World) (B g bs bl : Nat) (v : Value) (M : Nat) (d : Dv) (w' : World) : Prop := ∃ bs' bl' v' k', Dev w' B g bs' bl' v' k' d ∧ k' + d.ws.length ≤ M ∧ d.done ≤ M ∧ Keeps (Foot g bs bl v) w w' ∧ ∀ i, Foot g bs' bl' v' i → Foot g bs bl v i ∨ w.heap.size ≤ i

theorem Dv.write_rest (d : Dv) (x : Int) (l : List UInt8) (j : Nat) : (d.write x l j).1.done ≤ d.done + j ∧ (d.write x l j).1.ws.length ≤ d.ws.length + j := by
  induction j with
  | zero => exact ⟨Nat.le_refl _, Nat.le_refl _⟩
  | succ j ih =>
    obtain ⟨h1, h2⟩ := ih
    rw [Dv.write]
    split
    · exact ⟨by omega, by omega⟩
    · refine ⟨?_, ?_⟩
      · show (d.write x l j).1.done + 1 ≤ _
        omega
      · show ((d.write x l j).1.ws ++ [_]).length ≤ _
        rw [List.length_append, List.length_singleton]
        omega
theorem write_all {w : World} {B g bs bl k M : Nat} {v : Value} {d : Dv} (h : Dev w B g bs bl v k d) (hk : k + d.ws.length ≤ M) (hdo : d.done ≤ M) (hM : M ≤ 100000) (x : Int) (A : Option Addr) (n c : Nat) (l : List UInt8) (hl : Rd w w.heap.size 1 A n c (u8s l)) (hsep : 0 < n → ∀ b o, A = some ⟨b, o, none⟩ → ¬ Foot g bs bl v b) (hn : n ≤ 1000) :
    Calls Try.prog 16 #[.pointer (some ⟨g, 0, none⟩), .int .i64 x, .slice A n c] w fun e w' => (∃ E : Int, e = .returned (.int .i64 E)) ∧ Dleft w B g bs bl v (M + 16) (d.wrote x l) w' := by
  have hln : l.length = n := by have := hl.len; rwa [u8s_len] at this
  have hdn := h.ok.n
  unfold Dv.wrote
  rw [hln]
  cases hd : d.down with
  | true =>
    rw [if_pos rfl]
    refine (write_down g x A n c w (by rw [← hd]; exact h.c4)).mono ?_
    rintro e w' ⟨rfl, hb⟩
    exact ⟨⟨_, rfl⟩, bs, bl, v, k, h.below hb, by omega, by omega, Keeps.of_below hb, fun i hi => .inl hi⟩
  | false =>
    rw [if_neg (by simp)]
    cases hw : withinB d.n x (((n : Int) + 63) / 64) with
    | false =>
      rw [if_neg (by simp)]
      refine (write_out g d.n x A n c w h.c0 (by rw [← hd]; exact h.c4) hdn (by omega) hw).mono ?_
      rintro e w' ⟨rfl, hb⟩
      exact ⟨⟨_, rfl⟩, bs, bl, v, k, h.below hb, by omega, by omega, Keeps.of_below hb, fun i hi => .inl hi⟩
    | true =>
      rw [if_pos rfl]
      unfold withinB at hw
      simp only [decide_eq_true_eq] at hw
      refine (write_good h hd x A n c l hl hsep (by omega) (by omega) hw.1 (by omega) (by omega)).mono ?_
      rintro e w' ⟨rfl, v', hD, hK, hv⟩
      have hr := Dv.write_rest d x l ((n + 63) / 64)
      refine ⟨⟨_, rfl⟩, bs, bl, v', k, hD, by omega, by omega, hK, fun i hi => ?_⟩
      rcases hi with hi | hi | hi | hi
      · exact .inl (.inl hi)
      · exact .inl (.inr (.inl hi))
      · exact .inl (.inr (.inr (.inl hi)))
      · rcases hv i hi with h1 | h1
        · exact .inl (.inr (.inr (.inr h1)))
        · exact .inr h1

/-- What a call leaves of a reference device. -/
def Rdl (w : World) (B q : Nat) (vs vl : Value) (M : Nat) (r : Rv) (w' : World) : Prop := ∃ vs' vl', Rdev w' B q vs' vl' r ∧ r.safe.length + r.loose.length ≤ M ∧ r.done ≤ M ∧ Keeps (Rfoot q vs vl) w w' ∧ ∀ i, Rfoot q vs' vl' i → Rfoot q vs vl i ∨ w.heap.size ≤ i

theorem rwrite_all {w : World} {B q M : Nat} {vs vl : Value} {r : Rv} (h : Rdev w B q vs vl r) (hs : r.safe.length + r.loose.length ≤ M) (hdo : r.done ≤ M) (hM : M ≤ 100000) (x : Int) (A : Option Addr) (n c : Nat) (l : List UInt8) (hl : Rd w w.heap.size 1 A n c (u8s l)) (hsep : 0 < n → ∀ b o, A = some ⟨b, o, none⟩ → ¬ Rfoot q vs vl b) (hn : n ≤ 1000) :
    Calls Try.prog 24 #[.pointer (some ⟨q, 0, none⟩), .int .i64 x, .slice A n c] w fun e w' => (∃ E : Int, e = .returned (.int .i64 E)) ∧ Rdl w B q vs vl (M + 16) (r.wrote x l) w' := by
  have hln : l.length = n := by have := hl.len; rwa [u8s_len] at this
  have hrn := h.ok.n
  unfold Rv.wrote
  rw [hln]
  cases hd : r.down with
  | true =>
    rw [if_pos rfl]
    refine (rwrite_down (q := q) x A n c (by rw [← hd]; exact h.c3)).mono ?_
    rintro e w' ⟨rfl, rfl⟩
    exact ⟨⟨_, rfl⟩, vs, vl, h, by omega, by omega, Keeps.refl _ _, fun i hi => .inl hi⟩
  | false =>
    rw [if_neg (by simp)]
    cases hw : withinB r.n x (((n : Int) + 63) / 64) with
    | false =>
      rw [if_neg (by simp)]
      refine (rwrite_out (q := q) x A n c h.c0 (by rw [← hd]; exact h.c3) hrn (by omega) hw).mono ?_
      rintro e w' ⟨rfl, rfl⟩
      exact ⟨⟨_, rfl⟩, vs, vl, h, by omega, by omega, Keeps.refl _ _, fun i hi => .inl hi⟩
    | true =>
      rw [if_pos rfl]
      unfold withinB at hw
      simp only [decide_eq_true_eq] at hw
      refine (rwrite_good h hd x A n c ((n + 63) / 64) l rfl hl hsep (by omega) (by omega) hw.1 (by omega) (by omega)).mono ?_
      rintro e w' ⟨rfl, vs', vl', hD, hK, hv⟩
      have hr := Rv.write_rest r x l ((n + 63) / 64)
      refine ⟨⟨_, rfl⟩, vs', vl', hD, ?_, by omega, hK, hv⟩
      rw [hr.2.2.2]
      omega

/-- What is read, whatever is asked. -/
def Got (w : World) (e : Ending) (w' : World) : Prop := ∃ (A : Option Addr) (n c : Nat) (l : List UInt8) (E : Int), e = .returned (.tuple #[.slice A n c, .int .i64 E]) ∧ Rd w' w'.heap.size 1 A n c (u8s l) ∧ Below w.heap.size w w'
theorem rd_owns {w : World} {base n : Nat} {e : TypeId} {v : Value} {xs : List Value} (h : w.ownsRow base e 1 v n xs) : ∃ A c, v = .slice A n c ∧ Rd w w.heap.size 1 A n c xs := by
  obtain ⟨hl, h2⟩ := h
  rcases h2 with ⟨rfl, rfl⟩ | ⟨g, cap, cur, rfl, hb, hg, hc, hm, hcs, htake⟩
  · refine ⟨none, 0, rfl, Nat.le_refl _, Nat.zero_le _, hl, fun h => absurd h (by omega)⟩
  · refine ⟨some ⟨g, 0, none⟩, cap, rfl, hc, hm, hl, fun _ => ⟨g, 0, rfl, (Array.getElem?_eq_some_iff.1 hg).1, fun j u hu => ?_⟩⟩
    have := World.ownsRow.cells (w := w) (base := base) (e := e) (size := 1) (v := .slice (some ⟨g, 0, none⟩) n cap) (n := n) ⟨hl, .inr ⟨g, cap, cur, rfl, hb, hg, hc, hm, hcs, htake⟩⟩ (g := g) rfl j u hu
    rwa [addOff] at this
theorem read_all {w : World} {B g bs bl k : Nat} {v : Value} {d : Dv} (h : Dev w B g bs bl v k d) (x m : Int) (hm : Key m) :
    Calls Try.prog 13 #[.pointer (some ⟨g, 0, none⟩), .int .i64 x, .int .i64 m] w (Got w) := by
  have hdn := h.ok.n
  cases hd : d.down with
  | true =>
    refine (read_down g x m w (by rw [← hd]; exact h.c4)).mono ?_
    rintro e w' ⟨rfl, rfl⟩
    exact ⟨none, 0, 0, [], _, rfl, Rd.nil_, Below.refl _ _⟩
  | false =>
    cases hw : withinB d.n x m with
    | false =>
      refine (read_out g d.n x m w h.c0 (by rw [← hd]; exact h.c4) hdn hm.2 hw).mono ?_
      rintro e w' ⟨rfl, rfl⟩
      exact ⟨none, 0, 0, [], _, rfl, Rd.nil_, Below.refl _ _⟩
    | true =>
      unfold withinB at hw
      simp only [decide_eq_true_eq] at hw
      obtain ⟨m', rfl⟩ : ∃ m' : Nat, m = (m' : Int) := ⟨m.toNat, by omega⟩
      refine (read_good h hd x m' hw.1 (by omega)).mono ?_
      rintro e w' ⟨v', rfl, hown, hb⟩
      obtain ⟨A, c, rfl, hr⟩ := rd_owns hown
      exact ⟨A, _, c, _, _, rfl, hr, hb⟩
theorem rread_all {w : World} {B q : Nat} {vs vl : Value} {r : Rv} (h : Rdev w B q vs vl r) (hs : r.safe.length + r.loose.length ≤ 1000000) (x m : Int) :
    Calls Try.prog 25 #[.pointer (some ⟨q, 0, none⟩), .int .i64 x, .int .i64 m] w (Got w) := by
  have hrn := h.ok.n
  cases hd : r.down with
  | true =>
    refine (rread_down (q := q) x m (by rw [← hd]; exact h.c3)).mono ?_
    rintro e w' ⟨rfl, rfl⟩
    exact ⟨none, 0, 0, [], _, rfl, Rd.nil_, Below.refl _ _⟩
  | false =>
    cases hw : withinB r.n x m with
    | false =>
      refine (rread_out (q := q) x m h.c0 (by rw [← hd]; exact h.c3) hrn hw).mono ?_
      rintro e w' ⟨rfl, rfl⟩
      exact ⟨none, 0, 0, [], _, rfl, Rd.nil_, Below.refl _ _⟩
    | true =>
      unfold withinB at hw
      simp only [decide_eq_true_eq] at hw
      obtain ⟨m', rfl⟩ : ∃ m' : Nat, m = (m' : Int) := ⟨m.toNat, by omega⟩
      refine (rread_good h hd (by omega) (by omega) x m' hw.1 (by omega)).mono ?_
      rintro e w' ⟨v', rfl, hown, hb⟩
      obtain ⟨A, c, rfl, hr⟩ := rd_owns hown
      exact ⟨A, _, c, _, _, rfl, hr, hb⟩

theorem flush_all {w : World} {B g bs bl k M : Nat} {v : Value} {d : Dv} (h : Dev w B g bs bl v k d) (hk : k + d.ws.length ≤ M) (hdo : d.done ≤ M) (hM : M ≤ 100000) :
    Calls Try.prog 12 #[.pointer (some ⟨g, 0, none⟩)] w fun e w' => e = .returned (.int .i64 d.flush.2) ∧ Dleft w B g bs bl v (M + 16) d.flush.1 w' := by
  refine (flush_any h (by omega) (by omega)).mono ?_
  rintro e w' ⟨rfl, bl', v', k', hD, hk', hK, hv⟩
  refine ⟨rfl, bs, bl', v', k', hD, by omega, ?_, hK, hv⟩
  have : d.flush.1.done ≤ d.done + 1 := by
    unfold Dv.flush
    split
    · exact Nat.le_succ _
    · split <;> exact Nat.le_refl _
  omega
theorem rflush_all {w : World} {B q M : Nat} {vs vl : Value} {r : Rv} (h : Rdev w B q vs vl r) (hs : r.safe.length + r.loose.length ≤ M) (hdo : r.done ≤ M) (hM : M ≤ 100000) :
    Calls Try.prog 26 #[.pointer (some ⟨q, 0, none⟩)] w fun e w' => e = .returned (.int .i64 r.flush.2) ∧ Rdl w B q vs vl (M + 16) r.flush.1 w' := by
  refine (rflush_any h (by omega) (by omega)).mono ?_
  rintro e w' ⟨rfl, vs', vl', hD, hK, hv⟩
  have hp := Rv.puts_rest r.loose r.blow
  have hb1 : r.blow.done = r.done + 1 := rfl
  have hb2 : r.blow.safe = r.safe := rfl
  have hb3 : r.blow.loose = r.loose := rfl
  rw [hb1, hb2] at hp
  refine ⟨rfl, vs', vl', hD, ?_, ?_, hK, hv⟩
  · unfold Rv.flush
    split
    · dsimp only; omega
    · split
      · dsimp only; rw [hb2, hb3]; omega
      · show (r.blow.puts r.loose).safe.length + 0 ≤ _
        omega
  · unfold Rv.flush
    split
    · dsimp only; omega
    · split
      · dsimp only; rw [hb1]; omega
      · show (r.blow.puts r.loose).done ≤ _
        omega
theorem crash_all {w : World} {B g bs bl k M : Nat} {v : Value} {d : Dv} (h : Dev w B g bs bl v k d) (hk : k + d.ws.length ≤ M) (hdo : d.done ≤ M) (hM : M ≤ 100000) (A : Option Addr) (n c : Nat) (ks : List Int) (hl : Rd w w.heap.size 1 A n c (ks.map (Value.int .i64))) (hn : n ≤ 1000000) (hsep : 0 < n → ∀ b o, A = some ⟨b, o, none⟩ → ¬ Foot g bs bl v b) :
    Calls Try.prog 15 #[.pointer (some ⟨g, 0, none⟩), .slice A n c] w fun e w' => e = .returned (.tuple #[]) ∧ Dleft w B g bs bl v (M + 16) (d.crash ks) w' := by
  refine (crash_any h (by omega) (by omega) A n c ks hl hn hsep).mono ?_
  rintro e w' ⟨rfl, bl', k', hD, hk', hK, hb⟩
  refine ⟨rfl, bs, bl', .slice none 0 0, k', hD, ?_, ?_, hK, fun i hi => ?_⟩
  · show k' + 0 ≤ _
    omega
  · show (d.crash1 ks d.ws.length).done ≤ _
    rw [(Dv.crash1_ws d ks d.ws.length).2.2]
    omega
  · rcases hi with hi | hi | hi | hi
    · exact .inl (.inl hi)
    · exact .inl (.inr (.inl hi))
    · exact .inr (by omega)
    · cases hi
theorem rcrash_all {w : World} {B q M : Nat} {vs vl : Value} {r : Rv} (h : Rdev w B q vs vl r) (hs : r.safe.length + r.loose.length ≤ M) (hdo : r.done ≤ M) (hM : M ≤ 100000) (A : Option Addr) (n c : Nat) (ks : List Int) (hl : Rd w w.heap.size 1 A n c (ks.map (Value.int .i64))) (hn : n ≤ 1000000) (hsep : 0 < n → ∀ b o, A = some ⟨b, o, none⟩ → ¬ Rfoot q vs vl b) :
    Calls Try.prog 27 #[.pointer (some ⟨q, 0, none⟩), .slice A n c] w fun e w' => e = .returned (.tuple #[]) ∧ Rdl w B q vs vl (M + 16) (r.crash ks) w' := by
  refine (rcrash_any h (by omega) A n c ks hl hn hsep).mono ?_
  rintro e w' ⟨rfl, vs', vl', hD, hK, hv⟩
  obtain ⟨h1, h2, h3, h4⟩ := Rv.crash1_rest r ks r.loose.length
  refine ⟨rfl, vs', vl', hD, ?_, ?_, hK, hv⟩
  · show (r.crash1 ks r.loose.length).safe.length + 0 ≤ _
    omega
  · show (r.crash1 ks r.loose.length).done ≤ _
    omega

end Go.Proofs.Ytdmcbojncgdccaa

/- A call, both ways: the parts. A call, both ways: Do. A call, both ways: Do, the other kinds. -/
import Derived.Test.YtddnjlnhnnpgiaaRwrite
import Derived.Test.YtddnjlnhnnpgiaaRputZ
namespace Go.Proofs.Ytddnjlnhnnpgiaa
set_option maxRecDepth 20000
open Go.RowKit

/-- What a write leaves of a device, whatever is asked. -/
def Dv.wrote (d : Dv) (x : Int) (l : List UInt8) : Dv := if d.down = true then d else if withinB d.n x (((l.length : Int) + 63) / 64) = true then (d.write x l ((l.length + 63) / 64)).1 else d
def Rv.wrote (r : Rv) (x : Int) (l : List UInt8) : Rv := if r.down = true then r else if withinB r.n x (((l.length : Int) + 63) / 64) = true then (r.write x l ((l.length + 63) / 64)).1 else r
/-- What a call leaves of a device. -/
def Dleft (w : World) (B g bs bl : Nat) (v : Value) (M : Nat) (d : Dv) (w' : World) : Prop := ∃ bs' bl' v' k', Dev w' B g bs' bl' v' k' d ∧ k' + d.ws.length ≤ M ∧ d.done ≤ M ∧ Keeps (Foot g bs bl v) w w' ∧ ∀ i, Foot g bs' bl' v' i → Foot g bs bl v i ∨ w.heap.size ≤ i

theorem Dv.write_rest (d : Dv) (x : Int) (l : List UInt8) (j : Nat) : (d.write x l j).1.done ≤ d.done + j ∧ (d.write x l j).1.ws.length ≤ d.ws.length + j := by
  induction j with
  | zero => exact ⟨Nat.le_refl _, Nat.le_refl _⟩
  | succ j ih =>
    obtain ⟨h1, h2⟩ := ih
    rw [Dv.write]
    split
    · exact ⟨by omega, by omega⟩
    · refine ⟨?_, ?_⟩
      · show (d.write x l j).1.done + 1 ≤ _
        omega
      · show ((d.write x l j).1.ws ++ [_]).length ≤ _
        rw [List.length_append, List.length_singleton]
        omega
theorem write_all {w : World} {B g bs bl k M : Nat} {v : Value} {d : Dv} (h : Dev w B g bs bl v k d) (hk : k + d.ws.length ≤ M) (hdo : d.done ≤ M) (hM : M ≤ 100000) (x : Int) (A : Option Addr) (n c : Nat) (l : List UInt8) (hl : Rd w w.heap.size 1 A n c (u8s l)) (hsep : 0 < n → ∀ b o, A = some ⟨b, o, none⟩ → ¬ Foot g bs bl v b) (hn : n ≤ 1000) :
    Calls Try.prog 38 #[.pointer (some ⟨g, 0, none⟩), .int .i64 x, .slice A n c] w fun e w' => (∃ E : Int, e = .returned (.int .i64 E)) ∧ Dleft w B g bs bl v (M + 16) (d.wrote x l) w' := by
  have hln : l.length = n := by have := hl.len; rwa [u8s_len] at this
  have hdn := h.ok.n
  unfold Dv.wrote
  rw [hln]
  cases hd : d.down with
  | true =>
    rw [if_pos rfl]
    refine (write_down g x A n c w (by rw [← hd]; exact h.c4)).mono ?_
    rintro e w' ⟨rfl, hb⟩
    exact ⟨⟨_, rfl⟩, bs, bl, v, k, h.below hb, by omega, by omega, Keeps.of_below hb, fun i hi => .inl hi⟩
  | false =>
    rw [if_neg (by simp)]
    cases hw : withinB d.n x (((n : Int) + 63) / 64) with
    | false =>
      rw [if_neg (by simp)]
      refine (write_out g d.n x A n c w h.c0 (by rw [← hd]; exact h.c4) hdn (by omega) hw).mono ?_
      rintro e w' ⟨rfl, hb⟩
      exact ⟨⟨_, rfl⟩, bs, bl, v, k, h.below hb, by omega, by omega, Keeps.of_below hb, fun i hi => .inl hi⟩
    | true =>
      rw [if_pos rfl]
      unfold withinB at hw
      simp only [decide_eq_true_eq] at hw
      refine (write_good h hd x A n c l hl hsep (by omega) (by omega) hw.1 (by omega) (by omega)).mono ?_
      rintro e w' ⟨rfl, v', hD, hK, hv⟩
      have hr := Dv.write_rest d x l ((n + 63) / 64)
      refine ⟨⟨_, rfl⟩, bs, bl, v', k, hD, by omega, by omega, hK, fun i hi => ?_⟩
      rcases hi with hi | hi | hi | hi
      · exact .inl (.inl hi)
      · exact .inl (.inr (.inl hi))
      · exact .inl (.inr (.inr (.inl hi)))
      · rcases hv i hi with h1 | h1
        · exact .inl (.inr (.inr (.inr h1)))
        · exact .inr h1

/-- What a call leaves of a reference device. -/
def Rdl (w : World) (B q : Nat) (vs vl : Value) (M : Nat) (r : Rv) (w' : World) : Prop := ∃ vs' vl', Rdev w' B q vs' vl' r ∧ r.safe.length + r.loose.length ≤ M ∧ r.done ≤ M ∧ Keeps (Rfoot q vs vl) w w' ∧ ∀ i, Rfoot q vs' vl' i → Rfoot q vs vl i ∨ w.heap.size ≤ i

theorem rwrite_all {w : World} {B q M : Nat} {vs vl : Value} {r : Rv} (h : Rdev w B q vs vl r) (hs : r.safe.length + r.loose.length ≤ M) (hdo : r.done ≤ M) (hM : M ≤ 100000) (x : Int) (A : Option Addr) (n c : Nat) (l : List UInt8) (hl : Rd w w.heap.size 1 A n c (u8s l)) (hsep : 0 < n → ∀ b o, A = some ⟨b, o, none⟩ → ¬ Rfoot q vs vl b) (hn : n ≤ 1000) :
    Calls Try.prog 36 #[.pointer (some ⟨q, 0, none⟩), .int .i64 x, .slice A n c] w fun e w' => (∃ E : Int, e = .returned (.int .i64 E)) ∧ Rdl w B q vs vl (M + 16) (r.wrote x l) w' := by
  have hln : l.length = n := by have := hl.len; rwa [u8s_len] at this
  have hrn := h.ok.n
  unfold Rv.wrote
  rw [hln]
  cases hd : r.down with
  | true =>
    rw [if_pos rfl]
    refine (rwrite_down (q := q) x A n c (by rw [← hd]; exact h.c3)).mono ?_
    rintro e w' ⟨rfl, rfl⟩
    exact ⟨⟨_, rfl⟩, vs, vl, h, by omega, by omega, Keeps.refl _ _, fun i hi => .inl hi⟩
  | false =>
    rw [if_neg (by simp)]
    cases hw : withinB r.n x (((n : Int) + 63) / 64) with
    | false =>
      rw [if_neg (by simp)]
      refine (rwrite_out (q := q) x A n c h.c0 (by rw [← hd]; exact h.c3) hrn (by omega) hw).mono ?_
      rintro e w' ⟨rfl, rfl⟩
      exact ⟨⟨_, rfl⟩, vs, vl, h, by omega, by omega, Keeps.refl _ _, fun i hi => .inl hi⟩
    | true =>
      rw [if_pos rfl]
      unfold withinB at hw
      simp only [decide_eq_true_eq] at hw
      refine (rwrite_good h hd x A n c ((n + 63) / 64) l rfl hl hsep (by omega) (by omega) hw.1 (by omega) (by omega)).mono ?_
      rintro e w' ⟨rfl, vs', vl', hD, hK, hv⟩
      have hr := Rv.write_rest r x l ((n + 63) / 64)
      refine ⟨⟨_, rfl⟩, vs', vl', hD, ?_, by omega, hK, hv⟩
      rw [hr.2.2.2]
      omega

/-- What is read, whatever is asked. -/
def Got (w : World) (e : Ending) (w' : World) : Prop := ∃ (A : Option Addr) (n c : Nat) (l : List UInt8) (E : Int), e = .returned (.tuple #[.slice A n c, .int .i64 E]) ∧ Rd w' w'.heap.size 1 A n c (u8s l) ∧ Below w.heap.size w w'
theorem rd_owns {w : World} {base n : Nat} {e : TypeId} {v : Value} {xs : List Value} (h : w.ownsRow base e 1 v n xs) : ∃ A c, v = .slice A n c ∧ Rd w w.heap.size 1 A n c xs := by
  obtain ⟨hl, h2⟩ := h
  rcases h2 with ⟨rfl, rfl⟩ | ⟨g, cap, cur, rfl, hb, hg, hc, hm, hcs, htake⟩
  · refine ⟨none, 0, rfl, Nat.le_refl _, Nat.zero_le _, hl, fun h => absurd h (by omega)⟩
  · refine ⟨some ⟨g, 0, none⟩, cap, rfl, hc, hm, hl, fun _ => ⟨g, 0, rfl, (Array.getElem?_eq_some_iff.1 hg).1, fun j u hu => ?_⟩⟩
    have := World.ownsRow.cells (w := w) (base := base) (e := e) (size := 1) (v := .slice (some ⟨g, 0, none⟩) n cap) (n := n) ⟨hl, .inr ⟨g, cap, cur, rfl, hb, hg, hc, hm, hcs, htake⟩⟩ (g := g) rfl j u hu
    rwa [addOff] at this
theorem read_all {w : World} {B g bs bl k : Nat} {v : Value} {d : Dv} (h : Dev w B g bs bl v k d) (x m : Int) (hm : Key m) :
    Calls Try.prog 24 #[.pointer (some ⟨g, 0, none⟩), .int .i64 x, .int .i64 m] w (Got w) := by
  have hdn := h.ok.n
  cases hd : d.down with
  | true =>
    refine (read_down g x m w (by rw [← hd]; exact h.c4)).mono ?_
    rintro e w' ⟨rfl, rfl⟩
    exact ⟨none, 0, 0, [], _, rfl, Rd.nil_, Below.refl _ _⟩
  | false =>
    cases hw : withinB d.n x m with
    | false =>
      refine (read_out g d.n x m w h.c0 (by rw [← hd]; exact h.c4) hdn hm.2 hw).mono ?_
      rintro e w' ⟨rfl, rfl⟩
      exact ⟨none, 0, 0, [], _, rfl, Rd.nil_, Below.refl _ _⟩
    | true =>
      unfold withinB at hw
      simp only [decide_eq_true_eq] at hw
      obtain ⟨m', rfl⟩ : ∃ m' : Nat, m = (m' : Int) := ⟨m.toNat, by omega⟩
      refine (read_good h hd x m' hw.1 (by omega)).mono ?_
      rintro e w' ⟨v', rfl, hown, hb⟩
      obtain ⟨A, c, rfl, hr⟩ := rd_owns hown
      exact ⟨A, _, c, _, _, rfl, hr, hb⟩
theorem rread_all {w : World} {B q : Nat} {vs vl : Value} {r : Rv} (h : Rdev w B q vs vl r) (hs : r.safe.length + r.loose.length ≤ 1000000) (x m : Int) :
    Calls Try.prog 28 #[.pointer (some ⟨q, 0, none⟩), .int .i64 x, .int .i64 m] w (Got w) := by
  have hrn := h.ok.n
  cases hd : r.down with
  | true =>
    refine (rread_down (q := q) x m (by rw [← hd]; exact h.c3)).mono ?_
    rintro e w' ⟨rfl, rfl⟩
    exact ⟨none, 0, 0, [], _, rfl, Rd.nil_, Below.refl _ _⟩
  | false =>
    cases hw : withinB r.n x m with
    | false =>
      refine (rread_out (q := q) x m h.c0 (by rw [← hd]; exact h.c3) hrn hw).mono ?_
      rintro e w' ⟨rfl, rfl⟩
      exact ⟨none, 0, 0, [], _, rfl, Rd.nil_, Below.refl _ _⟩
    | true =>
      unfold withinB at hw
      simp only [decide_eq_true_eq] at hw
      obtain ⟨m', rfl⟩ : ∃ m' : Nat, m = (m' : Int) := ⟨m.toNat, by omega⟩
      refine (rread_good h hd (by omega) (by omega) x m' hw.1 (by omega)).mono ?_
      rintro e w' ⟨v', rfl, hown, hb⟩
      obtain ⟨A, c, rfl, hr⟩ := rd_owns hown
      exact ⟨A, _, c, _, _, rfl, hr, hb⟩

theorem flush_all {w : World} {B g bs bl k M : Nat} {v : Value} {d : Dv} (h : Dev w B g bs bl v k d) (hk : k + d.ws.length ≤ M) (hdo : d.done ≤ M) (hM : M ≤ 100000) :
    Calls Try.prog 39 #[.pointer (some ⟨g, 0, none⟩)] w fun e w' => e = .returned (.int .i64 d.flush.2) ∧ Dleft w B g bs bl v (M + 16) d.flush.1 w' := by
  refine (flush_any h (by omega) (by omega)).mono ?_
  rintro e w' ⟨rfl, bl', v', k', hD, hk', hK, hv⟩
  refine ⟨rfl, bs, bl', v', k', hD, by omega, ?_, hK, hv⟩
  have : d.flush.1.done ≤ d.done + 1 := by
    unfold Dv.flush
    split
    · exact Nat.le_succ _
    · split <;> exact Nat.le_refl _
  omega
theorem rflush_all {w : World} {B q M : Nat} {vs vl : Value} {r : Rv} (h : Rdev w B q vs vl r) (hs : r.safe.length + r.loose.length ≤ M) (hdo : r.done ≤ M) (hM : M ≤ 100000) :
    Calls Try.prog 37 #[.pointer (some ⟨q, 0, none⟩)] w fun e w' => e = .returned (.int .i64 r.flush.2) ∧ Rdl w B q vs vl (M + 16) r.flush.1 w' := by
  refine (rflush_any h (by omega) (by omega)).mono ?_
  rintro e w' ⟨rfl, vs', vl', hD, hK, hv⟩
  have hp := Rv.puts_rest r.loose r.blow
  have hb1 : r.blow.done = r.done + 1 := rfl
  have hb2 : r.blow.safe = r.safe := rfl
  have hb3 : r.blow.loose = r.loose := rfl
  rw [hb1, hb2] at hp
  refine ⟨rfl, vs', vl', hD, ?_, ?_, hK, hv⟩
  · unfold Rv.flush
    split
    · dsimp only; omega
    · split
      · dsimp only; rw [hb2, hb3]; omega
      · show (r.blow.puts r.loose).safe.length + 0 ≤ _
        omega
  · unfold Rv.flush
    split
    · dsimp only; omega
    · split
      · dsimp only; rw [hb1]; omega
      · show (r.blow.puts r.loose).done ≤ _
        omega
theorem crash_all {w : World} {B g bs bl k M : Nat} {v : Value} {d : Dv} (h : Dev w B g bs bl v k d) (hk : k + d.ws.length ≤ M) (hdo : d.done ≤ M) (hM : M ≤ 100000) (A : Option Addr) (n c : Nat) (ks : List Int) (hl : Rd w w.heap.size 1 A n c (ks.map (Value.int .i64))) (hn : n ≤ 1000000) (hsep : 0 < n → ∀ b o, A = some ⟨b, o, none⟩ → ¬ Foot g bs bl v b) :
    Calls Try.prog 17 #[.pointer (some ⟨g, 0, none⟩), .slice A n c] w fun e w' => e = .returned (.tuple #[]) ∧ Dleft w B g bs bl v (M + 16) (d.crash ks) w' := by
  refine (crash_any h (by omega) (by omega) A n c ks hl hn hsep).mono ?_
  rintro e w' ⟨rfl, bl', k', hD, hk', hK, hb⟩
  refine ⟨rfl, bs, bl', .slice none 0 0, k', hD, ?_, ?_, hK, fun i hi => ?_⟩
  · show k' + 0 ≤ _
    omega
  · show (d.crash1 ks d.ws.length).done ≤ _
    rw [(Dv.crash1_ws d ks d.ws.length).2.2]
    omega
  · rcases hi with hi | hi | hi | hi
    · exact .inl (.inl hi)
    · exact .inl (.inr (.inl hi))
    · exact .inr (by omega)
    · cases hi
theorem rcrash_all {w : World} {B q M : Nat} {vs vl : Value} {r : Rv} (h : Rdev w B q vs vl r) (hs : r.safe.length + r.loose.length ≤ M) (hdo : r.done ≤ M) (hM : M ≤ 100000) (A : Option Addr) (n c : Nat) (ks : List Int) (hl : Rd w w.heap.size 1 A n c (ks.map (Value.int .i64))) (hn : n ≤ 1000000) (hsep : 0 < n → ∀ b o, A = some ⟨b, o, none⟩ → ¬ Rfoot q vs vl b) :
    Calls Try.prog 18 #[.pointer (some ⟨q, 0, none⟩), .slice A n c] w fun e w' => e = .returned (.tuple #[]) ∧ Rdl w B q vs vl (M + 16) (r.crash ks) w' := by
  refine (rcrash_any h (by omega) A n c ks hl hn hsep).mono ?_
  rintro e w' ⟨rfl, vs', vl', hD, hK, hv⟩
  obtain ⟨h1, h2, h3, h4⟩ := Rv.crash1_rest r ks r.loose.length
  refine ⟨rfl, vs', vl', hD, ?_, ?_, hK, hv⟩
  · show (r.crash1 ks r.loose.length).safe.length + 0 ≤ _
    omega
  · show (r.crash1 ks r.loose.length).done ≤ _
    omega

end Go.Proofs.Ytddnjlnhnnpgiaa

namespace Go.Proofs.Ytddnjlnhnnpgiaa
set_option maxRecDepth 20000
open Go.RowKit

/-- What a call leaves of a device. -/
def Dv.op (d : Dv) (o : Opd) : Dv := if o.kind = 0 then d.wrote o.at_ o.b else if o.kind = 2 then d.flush.1 else if o.kind = 3 then d.fused o.n else if o.kind = 4 then d.crash o.keep else d
/-- A device and a reference device beside each other. -/
def Pair (w : World) (B g q : Nat) (F : Nat → Prop) (M : Nat) (d : Dv) : Prop := ∃ bs bl v k vs vl r, Dev w B g bs bl v k d ∧ k + d.ws.length ≤ M ∧ d.done ≤ M ∧ Rdev w B q vs vl r ∧ r.safe.length + r.loose.length ≤ M ∧ r.done ≤ M ∧ (∀ i, Foot g bs bl v i → ¬ Rfoot q vs vl i) ∧ ∀ i, (Foot g bs bl v i ∨ Rfoot q vs vl i) → F i
theorem Pair.mono {w : World} {B g q M M' : Nat} {F F' : Nat → Prop} {d : Dv} (h : Pair w B g q F M d) (hM : M ≤ M') (hF : ∀ i, F i → F' i) : Pair w B g q F' M' d := by
  obtain ⟨bs, bl, v, k, vs, vl, r, h1, h2, h3, h4, h5, h6, h7, h8⟩ := h
  exact ⟨bs, bl, v, k, vs, vl, r, h1, by omega, by omega, h4, by omega, by omega, h7, fun i hi => hF i (h8 i hi)⟩
theorem Pair.keeps {w w' : World} {B g q M : Nat} {F G : Nat → Prop} {d : Dv} (h : Pair w B g q F M d) (kp : Keeps G w w') (hG : ∀ i, G i → ¬ F i) : Pair w' B g q F M d := by
  obtain ⟨bs, bl, v, k, vs, vl, r, h1, h2, h3, h4, h5, h6, h7, h8⟩ := h
  exact ⟨bs, bl, v, k, vs, vl, r, h1.keeps kp (fun i hi hf => hG i hi (h8 i (.inl hf))), h2, h3, h4.keeps kp (fun i hi hf => hG i hi (h8 i (.inr hf))), h5, h6, h7, h8⟩
section
variable {w w1 w2 : World} {B g q bs bl k M : Nat} {v vs vl : Value} {d d' : Dv} {r r' : Rv}
/-- The device first, the reference device then. -/
theorem pair_both (_ : Dev w B g bs bl v k d) (hr : Rdev w B q vs vl r) (hdj : ∀ i, Foot g bs bl v i → ¬ Rfoot q vs vl i) (hD : Dleft w B g bs bl v M d' w1) (hR : Rdl w1 B q vs vl M r' w2) : Pair w2 B g q (fun i => (Foot g bs bl v i ∨ Rfoot q vs vl i) ∨ w.heap.size ≤ i) M d' ∧ Keeps (fun i => Foot g bs bl v i ∨ Rfoot q vs vl i) w w2 := by
  obtain ⟨bs', bl', v', k', hD1, hk1, hd1, hK1, hf1⟩ := hD
  obtain ⟨vs', vl', hR2, hs2, hd2, hK2, hf2⟩ := hR
  have hz1 := hK1.size
  refine ⟨⟨bs', bl', v', k', vs', vl', r', hD1.keeps hK2 (fun i hi hf => ?_), hk1, hd1, hR2, hs2, hd2, fun i hi hf => ?_, fun i hi => ?_⟩, (hK1.wide (fun i hi => .inl hi)).trans hK2 (fun i hi => .inl (.inr hi))⟩
  · rcases hf1 i hf with h1 | h1
    · exact hdj i h1 hi
    · have := (hr.foot_lt hi).2
      omega
  · rcases hf2 i hf with h2 | h2
    · rcases hf1 i hi with h1 | h1
      · exact hdj i h1 h2
      · have := (hr.foot_lt h2).2
        omega
    · have := (hD1.foot_lt hi).2
      omega
  · rcases hi with hi | hi
    · rcases hf1 i hi with h1 | h1
      · exact .inl (.inl h1)
      · exact .inr h1
    · rcases hf2 i hi with h2 | h2
      · exact .inl (.inr h2)
      · exact .inr (by omega)
theorem rdl_same (hr : Rdev w B q vs vl r) (hs : r.safe.length + r.loose.length ≤ M) (hd : r.done ≤ M) : Rdl w B q vs vl M r w := ⟨vs, vl, hr, hs, hd, Keeps.refl _ _, fun _ hi => .inl hi⟩
theorem dl_same (h : Dev w B g bs bl v k d) (hk : k + d.ws.length ≤ M) (hd : d.done ≤ M) : Dleft w B g bs bl v M d w := ⟨bs, bl, v, k, h, hk, hd, Keeps.refl _ _, fun _ hi => .inl hi⟩
theorem Dleft.rdev (hD : Dleft w B g bs bl v M d' w1) (hr : Rdev w B q vs vl r) (hdj : ∀ i, Foot g bs bl v i → ¬ Rfoot q vs vl i) : Rdev w1 B q vs vl r := by
  obtain ⟨_, _, _, _, _, _, _, hK1, _⟩ := hD
  exact hr.keeps hK1 hdj
end

set_option maxHeartbeats 4000000 in
set_option maxRecDepth 8000 in
theorem do_write {w : World} {B g q bs bl k M : Nat} {v vs vl : Value} {d : Dv} {r : Rv} (h : Dev w B g bs bl v k d) (hk : k + d.ws.length ≤ M) (hdo : d.done ≤ M) (hr : Rdev w B q vs vl r) (hs : r.safe.length + r.loose.length ≤ M) (hrd : r.done ≤ M) (hM : M ≤ 100000) (hdj : ∀ i, Foot g bs bl v i → ¬ Rfoot q vs vl i)
    (x n : Int) (A A2 : Option Addr) (bn bc kn kc : Nat) (l : List UInt8) (hl : Rd w w.heap.size 1 A bn bc (u8s l)) (hbn : bn ≤ 1000) (hsep : 0 < bn → ∀ b o, A = some ⟨b, o, none⟩ → ¬ (Foot g bs bl v b ∨ Rfoot q vs vl b)) :
    Calls Try.prog 16 #[.pointer (some ⟨g, 0, none⟩), .pointer (some ⟨q, 0, none⟩), .agg #[.int .i64 0, .int .i64 x, .int .i64 n, .slice A bn bc, .slice A2 kn kc]] w fun e w' => (∃ b, e = .returned (.bool b)) ∧ Pair w' B g q (fun i => (Foot g bs bl v i ∨ Rfoot q vs vl i) ∨ w.heap.size ≤ i) (M + 16) (d.wrote x l) ∧ Keeps (fun i => Foot g bs bl v i ∨ Rfoot q vs vl i) w w' := by
  obtain ⟨W0, hW0⟩ : ∃ W0, W0 = w.alloc (.cells #[.int .i64 0, .int .i64 x, .int .i64 n, .slice A bn bc, .slice A2 kn kc] 41) := ⟨_, rfl⟩
  have hr0 : W0.heap[w.heap.size]? = some (.cells #[.int .i64 0, .int .i64 x, .int .i64 n, .slice A bn bc, .slice A2 kn kc] 41 (0, 0)) := by rw [hW0]; exact heap_alloc_new w _
  have hg0 : w.grownBy W0 none := by rw [hW0]; exact World.grownBy_alloc _ _ _
  have hD0 := h.new hg0
  have hR0 := hr.new hg0
  have hl0 : Rd W0 W0.heap.size 1 A bn bc (u8s l) := (hl.keep (fun b o hb => World.cell?_of_block (a := ⟨b, o, none⟩) (hg0.block b hb (fun e => by cases e)))).more hg0.size
  have hF : ∀ i, (Foot g bs bl v i ∨ Rfoot q vs vl i) → i < w.heap.size := fun i hi => by
    rcases hi with hi | hi
    · exact (h.foot_lt hi).2
    · exact (hr.foot_lt hi).2
  have hF0 : ¬ (Foot g bs bl v w.heap.size ∨ Rfoot q vs vl w.heap.size) := fun hi => by have := hF _ hi; omega
  have s1 : W0.cell? ⟨w.heap.size, 1, none⟩ = some (.int .i64 x) := cell_of_row W0 _ 1 _ _ _ hr0
  have s3 : W0.cell? ⟨w.heap.size, 3, none⟩ = some (.slice A bn bc) := cell_of_row W0 _ 3 _ _ _ hr0
  have HDW := Lib.hid (fun (W : World) (hb : Below W0.heap.size W0 W) => write_all (hD0.below hb) hk hdo hM x A bn bc l ((hl0.below hb).more hb.size) (fun h0 b o e hf => hsep h0 b o e (.inl hf)) hbn)
  have HRW := Lib.hid (fun (W : World) (hR : Rdev W B q vs vl r) (hlW : Rd W W.heap.size 1 A bn bc (u8s l)) => rwrite_all hR hs hrd hM x A bn bc l hlW (fun h0 b o e hf => hsep h0 b o e (.inr hf)) hbn)
  have HD0 := Lib.hid hD0
  have HR0 := Lib.hid hR0
  have HL0 := Lib.hid hl0
  have HW0 := Lib.hid hW0
  have HG0 := Lib.hid hg0
  have HDJ := Lib.hid hdj
  have HSEP := Lib.hid hsep
  have HF := Lib.hid hF
  have hM0 := Lib.hid hM
  clear hD0 hR0 hl0 hW0 hg0 hdj hsep hF h hr hk hdo hs hrd hM hl hbn hr0
  go_enter Try.func16, Try.ntmps16
  go_wp2
  rw [← HW0.out]
  refine wp_segs [([0, 1, 2, 3, 4, 6, 7, 8, 9, 10], 5), ([], 11)] [12, 13] (fun x => Keeps (fun i => (Foot g bs bl v i ∨ Rfoot q vs vl i)) W0 x) (by kernel_rfl) (by kernel_rfl) (fun d _ _ _ _ h => by cases d <;> exact h) (Keeps.refl _ _).drew ?_
  intro f hf
  have F1 := fun z => (hf z).cell s1 hF0
  have F3 := fun z => (hf z).cell s3 hF0
  simp only [pickI, Option.toList_some, List.cons_append, List.nil_append, List.getElem?_toArray, List.getElem?_cons_succ, List.getElem?_cons_zero]
  repeat (go_big_quiet_step (fail))
  refine wpQuiet_nil ?_
  clear F1 F3 hf f
  refine seg_op (by simp only [List.getElem?_toArray, List.getElem?_cons_succ, List.getElem?_cons_zero]; rfl) fun K hK => ?_
  go_simp
  refine (HDW.out _ (Below.refl _ _).drew).mono ?_
  rintro e w5 ⟨⟨E1, rfl⟩, hD5⟩
  have hD5' : Dleft W0 B g bs bl v (M + 16) (d.wrote x l) w5 := by
    obtain ⟨a1, a2, a3, a4, a5, a6, a7, a8, a9⟩ := hD5
    exact ⟨a1, a2, a3, a4, a5, a6, a7, a8.drew0, a9⟩
  have hR5 := hD5'.rdev HR0.out HDJ.out
  have hK5 : Keeps (Foot g bs bl v) W0 w5 := by obtain ⟨a1, a2, a3, a4, a5, a6, a7, a8, a9⟩ := hD5'; exact a8
  have hl5 : Rd w5 w5.heap.size 1 A bn bc (u8s l) := (HL0.out.stayn (fun hp b o e hb => hK5.block b hb (fun hf => HSEP.out hp b o e (.inl hf)))).more hK5.size
  refine hK.out _ _ (seg_keep (hK5.wide (fun i hi => .inl hi)) ?_)
  clear hK K
  try go_frame
  intro f hf
  refine wpQuiet_nil ?_
  clear hf f
  refine seg_op (by simp only [List.getElem?_toArray, List.getElem?_cons_succ, List.getElem?_cons_zero]; rfl) fun K hK => ?_
  go_simp
  refine (HRW.out _ hR5 hl5).mono ?_
  rintro e w6 ⟨⟨E2, rfl⟩, hR6⟩
  obtain ⟨hP, hKK⟩ := pair_both HD0.out HR0.out HDJ.out hD5' hR6
  refine hK.out _ _ (seg_keep hKK ?_)
  clear hK K
  try go_frame
  intro f hf
  simp only [pickI, Option.toList_some, List.cons_append, List.nil_append, List.getElem?_toArray, List.getElem?_cons_succ, List.getElem?_cons_zero]
  repeat (go_big_quiet_step (fail))
  refine wpQuiet_nil ?_
  clear hf f
  go_wp2
  go_ret
  refine ⟨⟨_, rfl⟩, hP.mono (Nat.le_refl _) (fun i hi => hi.imp id (fun h1 => Nat.le_trans HG0.out.size h1)), ((Keeps.refl _ _).grown HG0.out (fun k e => by cases e)).trans hKK (fun i hi => .inl hi)⟩

end Go.Proofs.Ytddnjlnhnnpgiaa

namespace Go.Proofs.Ytddnjlnhnnpgiaa
set_option maxRecDepth 20000
open Go.RowKit

set_option maxHeartbeats 4000000 in
set_option maxRecDepth 8000 in
theorem do_flush {w : World} {B g q bs bl k M : Nat} {v vs vl : Value} {d : Dv} {r : Rv} (h : Dev w B g bs bl v k d) (hk : k + d.ws.length ≤ M) (hdo : d.done ≤ M) (hr : Rdev w B q vs vl r) (hs : r.safe.length + r.loose.length ≤ M) (hrd : r.done ≤ M) (hM : M ≤ 100000) (hdj : ∀ i, Foot g bs bl v i → ¬ Rfoot q vs vl i)
    (kd x n : Int) (A A2 : Option Addr) (bn bc kn kc : Nat) (hkd : kd = 2) :
    Calls Try.prog 16 #[.pointer (some ⟨g, 0, none⟩), .pointer (some ⟨q, 0, none⟩), .agg #[.int .i64 kd, .int .i64 x, .int .i64 n, .slice A bn bc, .slice A2 kn kc]] w fun e w' => (∃ b, e = .returned (.bool b)) ∧ Pair w' B g q (fun i => (Foot g bs bl v i ∨ Rfoot q vs vl i) ∨ w.heap.size ≤ i) (M + 16) (d.flush.1) ∧ Keeps (fun i => Foot g bs bl v i ∨ Rfoot q vs vl i) w w' := by
  obtain ⟨W0, hW0⟩ : ∃ W0, W0 = w.alloc (.cells #[.int .i64 kd, .int .i64 x, .int .i64 n, .slice A bn bc, .slice A2 kn kc] 41) := ⟨_, rfl⟩
  have hr0 : W0.heap[w.heap.size]? = some (.cells #[.int .i64 kd, .int .i64 x, .int .i64 n, .slice A bn bc, .slice A2 kn kc] 41 (0, 0)) := by rw [hW0]; exact heap_alloc_new w _
  have hg0 : w.grownBy W0 none := by rw [hW0]; exact World.grownBy_alloc _ _ _
  have hD0 := h.new hg0
  have hR0 := hr.new hg0
  have hF : ∀ i, (Foot g bs bl v i ∨ Rfoot q vs vl i) → i < w.heap.size := fun i hi => by
    rcases hi with hi | hi
    · exact (h.foot_lt hi).2
    · exact (hr.foot_lt hi).2
  have hF0 : ¬ (Foot g bs bl v w.heap.size ∨ Rfoot q vs vl w.heap.size) := fun hi => by have := hF _ hi; omega
  have s0 : W0.cell? ⟨w.heap.size, 0, none⟩ = some (.int .i64 kd) := cell_of_row W0 _ 0 _ _ _ hr0
  have s1 : W0.cell? ⟨w.heap.size, 1, none⟩ = some (.int .i64 x) := cell_of_row W0 _ 1 _ _ _ hr0
  have s2 : W0.cell? ⟨w.heap.size, 2, none⟩ = some (.int .i64 n) := cell_of_row W0 _ 2 _ _ _ hr0
  have s4 : W0.cell? ⟨w.heap.size, 4, none⟩ = some (.slice A2 kn kc) := cell_of_row W0 _ 4 _ _ _ hr0
  subst hkd
  have hfin : ∀ (d' : Dv) (r' : Rv) (w1 w2 : World), Dleft W0 B g bs bl v (M + 16) d' w1 → Rdl w1 B q vs vl (M + 16) r' w2 → Pair w2 B g q (fun i => (Foot g bs bl v i ∨ Rfoot q vs vl i) ∨ w.heap.size ≤ i) (M + 16) d' ∧ Keeps (fun i => Foot g bs bl v i ∨ Rfoot q vs vl i) w w2 := fun d' r' w1 w2 hD hR => by
    obtain ⟨hP, hKK⟩ := pair_both hD0 hR0 hdj hD hR
    exact ⟨hP.mono (Nat.le_refl _) (fun i hi => hi.imp id (fun h1 => Nat.le_trans hg0.size h1)), ((Keeps.refl _ _).grown hg0 (fun k e => by cases e)).trans hKK (fun i hi => .inl hi)⟩
  have HW0 := Lib.hid hW0
  have HFIN := Lib.hid hfin
  have HDW := Lib.hid (flush_all hD0 hk hdo hM)
  have HRW := Lib.hid (fun (W : World) (hR : Rdev W B q vs vl r) => rflush_all hR hs hrd hM)
  have HRD := Lib.hid (fun (w1 : World) (d' : Dv) (hD : Dleft W0 B g bs bl v (M + 16) d' w1) => hD.rdev hR0 hdj)
  clear hD0 hR0 hW0 hg0 hdj hF h hr hk hdo hs hrd hM hr0 hfin
  go_enter Try.func16, Try.ntmps16
  go_wp2_with (first
    | (go_at_call 39; rw [← HW0.out]; refine HDW.out.mono ?_; rintro e w5 ⟨rfl, hD5⟩; have HR5 := Lib.hid (HRD.out _ _ hD5); have HD5 := Lib.hid hD5; clear hD5)
    | (go_at_call 37; refine (HRW.out _ HR5.out).mono ?_; rintro e w6 ⟨rfl, hR6⟩; have HR6 := Lib.hid hR6; clear hR6)
    | fail)
  go_ret
  exact ⟨⟨_, rfl⟩, HFIN.out _ _ _ _ HD5.out HR6.out⟩
set_option maxHeartbeats 4000000 in
set_option maxRecDepth 8000 in
theorem do_crash {w : World} {B g q bs bl k M : Nat} {v vs vl : Value} {d : Dv} {r : Rv} (h : Dev w B g bs bl v k d) (hk : k + d.ws.length ≤ M) (hdo : d.done ≤ M) (hr : Rdev w B q vs vl r) (hs : r.safe.length + r.loose.length ≤ M) (hrd : r.done ≤ M) (hM : M ≤ 100000) (hdj : ∀ i, Foot g bs bl v i → ¬ Rfoot q vs vl i)
    (kd x n : Int) (A A2 : Option Addr) (bn bc kn kc : Nat) (hkd : kd = 4) (ks : List Int) (hl : Rd w w.heap.size 1 A2 kn kc (ks.map (Value.int .i64))) (hkn : kn ≤ 1000) (hsep : 0 < kn → ∀ b o, A2 = some ⟨b, o, none⟩ → ¬ (Foot g bs bl v b ∨ Rfoot q vs vl b)) :
    Calls Try.prog 16 #[.pointer (some ⟨g, 0, none⟩), .pointer (some ⟨q, 0, none⟩), .agg #[.int .i64 kd, .int .i64 x, .int .i64 n, .slice A bn bc, .slice A2 kn kc]] w fun e w' => (∃ b, e = .returned (.bool b)) ∧ Pair w' B g q (fun i => (Foot g bs bl v i ∨ Rfoot q vs vl i) ∨ w.heap.size ≤ i) (M + 16) (d.crash ks) ∧ Keeps (fun i => Foot g bs bl v i ∨ Rfoot q vs vl i) w w' := by
  obtain ⟨W0, hW0⟩ : ∃ W0, W0 = w.alloc (.cells #[.int .i64 kd, .int .i64 x, .int .i64 n, .slice A bn bc, .slice A2 kn kc] 41) := ⟨_, rfl⟩
  have hr0 : W0.heap[w.heap.size]? = some (.cells #[.int .i64 kd, .int .i64 x, .int .i64 n, .slice A bn bc, .slice A2 kn kc] 41 (0, 0)) := by rw [hW0]; exact heap_alloc_new w _
  have hg0 : w.grownBy W0 none := by rw [hW0]; exact World.grownBy_alloc _ _ _
  have hD0 := h.new hg0
  have hR0 := hr.new hg0
  have hF : ∀ i, (Foot g bs bl v i ∨ Rfoot q vs vl i) → i < w.heap.size := fun i hi => by
    rcases hi with hi | hi
    · exact (h.foot_lt hi).2
    · exact (hr.foot_lt hi).2
  have hF0 : ¬ (Foot g bs bl v w.heap.size ∨ Rfoot q vs vl w.heap.size) := fun hi => by have := hF _ hi; omega
  have s0 : W0.cell? ⟨w.heap.size, 0, none⟩ = some (.int .i64 kd) := cell_of_row W0 _ 0 _ _ _ hr0
  have s1 : W0.cell? ⟨w.heap.size, 1, none⟩ = some (.int .i64 x) := cell_of_row W0 _ 1 _ _ _ hr0
  have s2 : W0.cell? ⟨w.heap.size, 2, none⟩ = some (.int .i64 n) := cell_of_row W0 _ 2 _ _ _ hr0
  have s4 : W0.cell? ⟨w.heap.size, 4, none⟩ = some (.slice A2 kn kc) := cell_of_row W0 _ 4 _ _ _ hr0
  subst hkd
  have hfin : ∀ (d' : Dv) (r' : Rv) (w1 w2 : World), Dleft W0 B g bs bl v (M + 16) d' w1 → Rdl w1 B q vs vl (M + 16) r' w2 → Pair w2 B g q (fun i => (Foot g bs bl v i ∨ Rfoot q vs vl i) ∨ w.heap.size ≤ i) (M + 16) d' ∧ Keeps (fun i => Foot g bs bl v i ∨ Rfoot q vs vl i) w w2 := fun d' r' w1 w2 hD hR => by
    obtain ⟨hP, hKK⟩ := pair_both hD0 hR0 hdj hD hR
    exact ⟨hP.mono (Nat.le_refl _) (fun i hi => hi.imp id (fun h1 => Nat.le_trans hg0.size h1)), ((Keeps.refl _ _).grown hg0 (fun k e => by cases e)).trans hKK (fun i hi => .inl hi)⟩
  have HW0 := Lib.hid hW0
  have HFIN := Lib.hid hfin
  have hl0 : Rd W0 W0.heap.size 1 A2 kn kc (ks.map (Value.int .i64)) := (hl.keep (fun b o hb => World.cell?_of_block (a := ⟨b, o, none⟩) (hg0.block b hb (fun e => by cases e)))).more hg0.size
  have HDW := Lib.hid (crash_all hD0 hk hdo hM A2 kn kc ks hl0 (by omega) (fun h0 b o e hf => hsep h0 b o e (.inl hf)))
  have HRW := Lib.hid (fun (W : World) (hR : Rdev W B q vs vl r) (hlW : Rd W W.heap.size 1 A2 kn kc (ks.map (Value.int .i64))) => rcrash_all hR hs hrd hM A2 kn kc ks hlW (by omega) (fun h0 b o e hf => hsep h0 b o e (.inr hf)))
  have HRD := Lib.hid (fun (w1 : World) (d' : Dv) (hD : Dleft W0 B g bs bl v (M + 16) d' w1) => hD.rdev hR0 hdj)
  have HL0 := Lib.hid hl0
  have HSEP := Lib.hid hsep
  clear hl hl0 hkn hsep
  clear hD0 hR0 hW0 hg0 hdj hF h hr hk hdo hs hrd hM hr0 hfin
  go_enter Try.func16, Try.ntmps16
  go_wp2_with (first
    | (go_at_call 17; rw [← HW0.out]; refine HDW.out.mono ?_; rintro e w5 ⟨rfl, hD5⟩
       have HR5 := Lib.hid (HRD.out _ _ hD5)
       have HK5 : Hid (Keeps (Foot g bs bl v) W0 w5) := Lib.hid (by obtain ⟨a1, a2, a3, a4, a5, a6, a7, a8, a9⟩ := hD5; exact a8)
       have s45 := HK5.out.cell s4 (fun hf => hF0 (.inl hf))
       have HD5 := Lib.hid hD5
       clear hD5)
    | (go_at_call 18; refine (HRW.out _ HR5.out ((HL0.out.stayn (fun hp b o e hb => HK5.out.block b hb (fun hf => HSEP.out hp b o e (.inl hf)))).more HK5.out.size)).mono ?_; rintro e w6 ⟨rfl, hR6⟩; have HR6 := Lib.hid hR6; clear hR6)
    | fail)
  go_ret
  exact ⟨⟨_, rfl⟩, HFIN.out _ _ _ _ HD5.out HR6.out⟩
set_option maxHeartbeats 4000000 in
set_option maxRecDepth 8000 in
theorem do_fuse {w : World} {B g q bs bl k M : Nat} {v vs vl : Value} {d : Dv} {r : Rv} (h : Dev w B g bs bl v k d) (hk : k + d.ws.length ≤ M) (hdo : d.done ≤ M) (hr : Rdev w B q vs vl r) (hs : r.safe.length + r.loose.length ≤ M) (hrd : r.done ≤ M) (_ : M ≤ 100000) (hdj : ∀ i, Foot g bs bl v i → ¬ Rfoot q vs vl i)
    (kd x n : Int) (A A2 : Option Addr) (bn bc kn kc : Nat) (hkd : kd = 3) (hn : Key n) :
    Calls Try.prog 16 #[.pointer (some ⟨g, 0, none⟩), .pointer (some ⟨q, 0, none⟩), .agg #[.int .i64 kd, .int .i64 x, .int .i64 n, .slice A bn bc, .slice A2 kn kc]] w fun e w' => (∃ b, e = .returned (.bool b)) ∧ Pair w' B g q (fun i => (Foot g bs bl v i ∨ Rfoot q vs vl i) ∨ w.heap.size ≤ i) (M + 16) (d.fused n) ∧ Keeps (fun i => Foot g bs bl v i ∨ Rfoot q vs vl i) w w' := by
  obtain ⟨W0, hW0⟩ : ∃ W0, W0 = w.alloc (.cells #[.int .i64 kd, .int .i64 x, .int .i64 n, .slice A bn bc, .slice A2 kn kc] 41) := ⟨_, rfl⟩
  have hr0 : W0.heap[w.heap.size]? = some (.cells #[.int .i64 kd, .int .i64 x, .int .i64 n, .slice A bn bc, .slice A2 kn kc] 41 (0, 0)) := by rw [hW0]; exact heap_alloc_new w _
  have hg0 : w.grownBy W0 none := by rw [hW0]; exact World.grownBy_alloc _ _ _
  have hD0 := h.new hg0
  have hR0 := hr.new hg0
  have hF : ∀ i, (Foot g bs bl v i ∨ Rfoot q vs vl i) → i < w.heap.size := fun i hi => by
    rcases hi with hi | hi
    · exact (h.foot_lt hi).2
    · exact (hr.foot_lt hi).2
  have hF0 : ¬ (Foot g bs bl v w.heap.size ∨ Rfoot q vs vl w.heap.size) := fun hi => by have := hF _ hi; omega
  have s0 : W0.cell? ⟨w.heap.size, 0, none⟩ = some (.int .i64 kd) := cell_of_row W0 _ 0 _ _ _ hr0
  have s1 : W0.cell? ⟨w.heap.size, 1, none⟩ = some (.int .i64 x) := cell_of_row W0 _ 1 _ _ _ hr0
  have s2 : W0.cell? ⟨w.heap.size, 2, none⟩ = some (.int .i64 n) := cell_of_row W0 _ 2 _ _ _ hr0
  have s4 : W0.cell? ⟨w.heap.size, 4, none⟩ = some (.slice A2 kn kc) := cell_of_row W0 _ 4 _ _ _ hr0
  subst hkd
  have hfin : ∀ (d' : Dv) (r' : Rv) (w1 w2 : World), Dleft W0 B g bs bl v (M + 16) d' w1 → Rdl w1 B q vs vl (M + 16) r' w2 → Pair w2 B g q (fun i => (Foot g bs bl v i ∨ Rfoot q vs vl i) ∨ w.heap.size ≤ i) (M + 16) d' ∧ Keeps (fun i => Foot g bs bl v i ∨ Rfoot q vs vl i) w w2 := fun d' r' w1 w2 hD hR => by
    obtain ⟨hP, hKK⟩ := pair_both hD0 hR0 hdj hD hR
    exact ⟨hP.mono (Nat.le_refl _) (fun i hi => hi.imp id (fun h1 => Nat.le_trans hg0.size h1)), ((Keeps.refl _ _).grown hg0 (fun k e => by cases e)).trans hKK (fun i hi => .inl hi)⟩
  have HW0 := Lib.hid hW0
  have HFIN := Lib.hid hfin
  have HDW := Lib.hid (fuse_any hD0 n hn)
  have HRD := Lib.hid (fun (w1 : World) (d' : Dv) (hD : Dleft W0 B g bs bl v (M + 16) d' w1) => hD.rdev hR0 hdj)
  have HKD := Lib.hid (And.intro hk hdo)
  have HKR := Lib.hid (And.intro hs hrd)
  have HN := Lib.hid hn
  have hn1 : -9223372036854775808 ≤ n := hn.1
  have hn2 : n ≤ 9223372036854775807 := hn.2
  clear hn
  clear hD0 hR0 hW0 hg0 hdj hF h hr hk hdo hs hrd hr0 hfin
  go_enter Try.func16, Try.ntmps16
  go_wp2_with (first
    | (go_at_call 20; rw [← HW0.out]; refine HDW.out.mono ?_; rintro e w5 ⟨rfl, hD5, hg5⟩
       have hK5 : Keeps (Foot g bs bl v) W0 w5 := (Keeps.one hg5).wide (fun i hi => .inl hi)
       have hD5' : Dleft W0 B g bs bl v (M + 16) (d.fused n) w5 := ⟨bs, bl, v, k, hD5, Nat.le_trans HKD.out.1 (Nat.le_add_right _ _), Nat.le_trans HKD.out.2 (Nat.le_add_right _ _), hK5, fun i hi => .inl hi⟩
       have hR5 := HRD.out _ _ hD5'
       have s25 := hK5.cell s2 (fun hf => hF0 (.inl hf))
       have c4 := hR5.c4
       have f4 := hR5.free 4
       have HR5 := Lib.hid hR5
       have HD5 := Lib.hid hD5'
       clear hD5 hg5 hK5 hD5' hR5)
    | fail)
  go_ret
  have hrow := set_row HR5.out.row 4 (.int .i64 (max n (-1)))
  have hg6 := setCell_grows w5 q 4 (.int .i64 (max n (-1)))
  have hR6 : Rdev (w5.setCell ⟨q, 4, none⟩ (.int .i64 (max n (-1)))) B q vs vl { r with fuse := max n (-1) } := HR5.out.set hrow hg6 rfl rfl ⟨HR5.out.ok.n, HR5.out.ok.safe, HR5.out.ok.loose, by show -1 ≤ max n (-1) ∧ max n (-1) ≤ _; omega⟩
  exact ⟨⟨_, rfl⟩, HFIN.out _ _ _ _ HD5.out ⟨vs, vl, hR6, Nat.le_trans HKR.out.1 (Nat.le_add_right _ _), Nat.le_trans HKR.out.2 (Nat.le_add_right _ _), (Keeps.one hg6).wide (fun i hi => .inl hi), fun i hi => .inl hi⟩⟩
set_option maxHeartbeats 4000000 in
set_option maxRecDepth 8000 in
theorem do_else {w : World} {B g q bs bl k M : Nat} {v vs vl : Value} {d : Dv} {r : Rv} (h : Dev w B g bs bl v k d) (hk : k + d.ws.length ≤ M) (hdo : d.done ≤ M) (hr : Rdev w B q vs vl r) (hs : r.safe.length + r.loose.length ≤ M) (hrd : r.done ≤ M) (_ : M ≤ 100000) (hdj : ∀ i, Foot g bs bl v i → ¬ Rfoot q vs vl i)
    (kd x n : Int) (A A2 : Option Addr) (bn bc kn kc : Nat) (h0 : kd ≠ 0) (h1 : kd ≠ 1) (h2 : kd ≠ 2) (h3 : kd ≠ 3) (h4 : kd ≠ 4) :
    Calls Try.prog 16 #[.pointer (some ⟨g, 0, none⟩), .pointer (some ⟨q, 0, none⟩), .agg #[.int .i64 kd, .int .i64 x, .int .i64 n, .slice A bn bc, .slice A2 kn kc]] w fun e w' => (∃ b, e = .returned (.bool b)) ∧ Pair w' B g q (fun i => (Foot g bs bl v i ∨ Rfoot q vs vl i) ∨ w.heap.size ≤ i) (M + 16) (d) ∧ Keeps (fun i => Foot g bs bl v i ∨ Rfoot q vs vl i) w w' := by
  obtain ⟨W0, hW0⟩ : ∃ W0, W0 = w.alloc (.cells #[.int .i64 kd, .int .i64 x, .int .i64 n, .slice A bn bc, .slice A2 kn kc] 41) := ⟨_, rfl⟩
  have hr0 : W0.heap[w.heap.size]? = some (.cells #[.int .i64 kd, .int .i64 x, .int .i64 n, .slice A bn bc, .slice A2 kn kc] 41 (0, 0)) := by rw [hW0]; exact heap_alloc_new w _
  have hg0 : w.grownBy W0 none := by rw [hW0]; exact World.grownBy_alloc _ _ _
  have hD0 := h.new hg0
  have hR0 := hr.new hg0
  have hF : ∀ i, (Foot g bs bl v i ∨ Rfoot q vs vl i) → i < w.heap.size := fun i hi => by
    rcases hi with hi | hi
    · exact (h.foot_lt hi).2
    · exact (hr.foot_lt hi).2
  have hF0 : ¬ (Foot g bs bl v w.heap.size ∨ Rfoot q vs vl w.heap.size) := fun hi => by have := hF _ hi; omega
  have s0 : W0.cell? ⟨w.heap.size, 0, none⟩ = some (.int .i64 kd) := cell_of_row W0 _ 0 _ _ _ hr0
  have s1 : W0.cell? ⟨w.heap.size, 1, none⟩ = some (.int .i64 x) := cell_of_row W0 _ 1 _ _ _ hr0
  have s2 : W0.cell? ⟨w.heap.size, 2, none⟩ = some (.int .i64 n) := cell_of_row W0 _ 2 _ _ _ hr0
  have s4 : W0.cell? ⟨w.heap.size, 4, none⟩ = some (.slice A2 kn kc) := cell_of_row W0 _ 4 _ _ _ hr0

  have hfin : ∀ (d' : Dv) (r' : Rv) (w1 w2 : World), Dleft W0 B g bs bl v (M + 16) d' w1 → Rdl w1 B q vs vl (M + 16) r' w2 → Pair w2 B g q (fun i => (Foot g bs bl v i ∨ Rfoot q vs vl i) ∨ w.heap.size ≤ i) (M + 16) d' ∧ Keeps (fun i => Foot g bs bl v i ∨ Rfoot q vs vl i) w w2 := fun d' r' w1 w2 hD hR => by
    obtain ⟨hP, hKK⟩ := pair_both hD0 hR0 hdj hD hR
    exact ⟨hP.mono (Nat.le_refl _) (fun i hi => hi.imp id (fun h1 => Nat.le_trans hg0.size h1)), ((Keeps.refl _ _).grown hg0 (fun k e => by cases e)).trans hKK (fun i hi => .inl hi)⟩
  have HW0 := Lib.hid hW0
  have HFIN := Lib.hid hfin
  have e0 : ((kd == 0) : Bool) = false := by simpa using h0
  have e1 : ((kd == 1) : Bool) = false := by simpa using h1
  have e2 : ((kd == 2) : Bool) = false := by simpa using h2
  have e3 : ((kd == 3) : Bool) = false := by simpa using h3
  have e4 : ((kd == 4) : Bool) = false := by simpa using h4
  have HD0 := Lib.hid (dl_same (M := M + 16) hD0 (by omega) (by omega))
  have HR0 := Lib.hid (rdl_same (M := M + 16) hR0 (by omega) (by omega))
  clear h0 h1 h2 h3 h4
  clear hD0 hR0 hW0 hg0 hdj hF h hr hk hdo hs hrd hr0 hfin
  go_enter Try.func16, Try.ntmps16
  go_wp2
  rw [← HW0.out]
  go_ret
  exact ⟨⟨_, rfl⟩, HFIN.out _ _ _ _ HD0.out HR0.out⟩

end Go.Proofs.Ytddnjlnhnnpgiaa

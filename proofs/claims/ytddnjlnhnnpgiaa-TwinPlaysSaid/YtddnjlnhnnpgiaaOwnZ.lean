/- A sector that nobody writes stays. Two writes of a sector, of which beginnings are kept. A device of one's own: whose blocks lie within N; what each call leaves of it. -/
import Derived.Test.YtddnjlnhnnpgiaaDoanyZ
namespace Go.Proofs.Ytddnjlnhnnpgiaa
set_option maxRecDepth 20000
open Go.RowKit

theorem lastOf_key_ : ∀ (l : List (Int × List UInt8)) (f : Says) (x : Int) (s : List UInt8), l.foldl (fun f p => fun y => if y = p.1 then some p.2 else f y) f x = some s → (∃ p ∈ l, p.1 = x) ∨ f x = some s := by
  intro l
  induction l with
  | nil => intro f x s h; exact .inr h
  | cons p l ih =>
    intro f x s h
    rcases ih _ x s h with ⟨q, hq, e⟩ | h1
    · exact .inl ⟨q, List.mem_cons_of_mem _ hq, e⟩
    · by_cases hx : x = p.1
      · exact .inl ⟨p, List.mem_cons_self, hx.symm⟩
      · simp only [if_neg hx] at h1
        exact .inr h1
theorem lastOf_none (l : List (Int × List UInt8)) (x : Int) (h : ∀ p ∈ l, p.1 ≠ x) : lastOf l x = none := by
  cases hl : lastOf l x with
  | none => rfl
  | some s =>
    rcases lastOf_key_ l _ x s hl with ⟨p, hp, e⟩ | h1
    · exact absurd e (h p hp)
    · cases h1
/-- What is safe of a sector is S0, and no change of it waits. -/
def Calm (d : Dv) (s : Int) (S0 : List UInt8) : Prop := d.S s = S0 ∧ ∀ p ∈ d.ws, p.1 ≠ s
theorem Calm.seen {d : Dv} {s : Int} {S0 : List UInt8} (h : Calm d s S0) : d.seen s = S0 := by
  unfold Dv.seen
  rw [lastOf_none _ _ h.2]
  exact h.1
theorem Calm.write {d : Dv} {s : Int} {S0 : List UInt8} (h : Calm d s S0) (x : Int) (l : List UInt8) (j : Nat) (hx : ∀ k, k < j → x + (k : Int) ≠ s) : Calm (d.write x l j).1 s S0 := by
  induction j with
  | zero => exact h
  | succ j ih =>
    have ih := ih (fun k hk => hx k (by omega))
    rw [Dv.write]
    split
    · exact ih
    · refine ⟨ih.1, fun p hp => ?_⟩
      have hp' : p ∈ (d.write x l j).1.ws ++ [(x + (j : Int), pad (sct l j))] := hp
      rcases List.mem_append.1 hp' with h1 | h1
      · exact ih.2 p h1
      · obtain rfl := List.mem_singleton.1 h1
        exact hx j (by omega)
/-- What a call must not do. -/
def Spares (o : Opd) (s : Int) : Prop := ¬ (o.kind = 0 ∧ o.at_ ≤ s ∧ s - max o.at_ 0 < (((o.b.length : Nat) : Int) + 63) / 64)
theorem Calm.op {d : Dv} {s : Int} {S0 : List UInt8} (h : Calm d s S0) (o : Opd) (ho : Spares o s) : Calm (d.op o) s S0 := by
  unfold Dv.op
  split
  · rename_i h0
    unfold Dv.wrote
    split
    · exact h
    · split
      · rename_i hw
        unfold withinB at hw
        simp only [decide_eq_true_eq] at hw
        refine h.write _ _ _ (fun k hk e => ho ⟨h0, ?_, ?_⟩)
        · omega
        · omega
      · exact h
  · split
    · unfold Dv.flush
      split
      · exact h
      · split
        · exact h
        · exact ⟨h.seen, fun p hp => by cases hp⟩
    · split
      · exact h
      · split
        · refine ⟨?_, fun p hp => by cases hp⟩
          show (d.crash1 o.keep d.ws.length).S s = S0
          generalize d.ws.length = i
          induction i with
          | zero => exact h.1
          | succ i ih =>
            rw [Dv.crash1]
            split
            · exact ih
            · rename_i p hp
              show (if s = p.1 then _ else (d.crash1 o.keep i).S s) = S0
              rw [if_neg (fun e => h.2 p (List.mem_of_getElem? hp) e.symm)]
              exact ih
        · exact h
theorem Dv.write_n (d : Dv) (x : Int) (l : List UInt8) (j : Nat) : (d.write x l j).1.n = d.n := by
  induction j with
  | zero => rfl
  | succ j ih =>
    rw [Dv.write]
    split
    · exact ih
    · exact ih
theorem Dv.op_n (d : Dv) (o : Opd) : (d.op o).n = d.n := by
  unfold Dv.op
  split
  · unfold Dv.wrote
    split
    · rfl
    · split
      · exact Dv.write_n _ _ _ _
      · rfl
  · split
    · unfold Dv.flush
      split
      · rfl
      · split <;> rfl
    · split
      · rfl
      · split
        · exact (Dv.crash1_ws d o.keep d.ws.length).2.1
        · rfl
theorem Calm.crash {d : Dv} {s : Int} {S0 : List UInt8} (h : Calm d s S0) (ks : List Int) : Calm (d.crash ks) s S0 := by
  have := h.op ⟨4, 0, 0, none, 0, 0, [], none, 0, 0, ks⟩ (fun h => by have := h.1; simp at this)
  exact this
/-- Behind a flush that is told to be good. -/
theorem flush_calm (d : Dv) (s : Int) (h : d.flush.2 = 0) : Calm d.flush.1 s (d.flush.1.S s) ∧ d.flush.1.down = false ∧ d.flush.1.n = d.n := by
  unfold Dv.flush at h ⊢
  split at h
  · cases h
  · split at h
    · cases h
    · rename_i h1 h2
      rw [if_neg h1, if_neg h2]
      exact ⟨⟨rfl, fun p hp => by cases hp⟩, by show d.step.down = false; simpa using h2, rfl⟩

end Go.Proofs.Ytddnjlnhnnpgiaa

namespace Go.Proofs.Ytddnjlnhnnpgiaa
set_option maxRecDepth 20000
open Go.RowKit

/-- One sector written while no fuse burns. -/
theorem Dv.write_one (d : Dv) (hd : d.down = false) (hf : d.fuse = 0) (x : Int) (l : List UInt8) (hl : l.length ≤ 64) : d.write x l 1 = ({ d with ws := d.ws ++ [(x, pad l)], done := d.done + 1 }, 0) := by
  have hs : sct l 0 = l := by
    unfold sct
    rw [Nat.mul_zero, List.drop_zero, List.take_of_length_le hl]
  have h0 : d.write x l 1 = ((d.chg (x + ((0 : Nat) : Int), pad (sct l 0))).step, pw (d.chg (x + ((0 : Nat) : Int), pad (sct l 0))).step.down) := by
    rw [Dv.write, if_neg (by simp [Dv.write])]
    rfl
  rw [h0, hs, show x + ((0 : Nat) : Int) = x from by omega]
  obtain ⟨n, S, ws, down, fuse, done⟩ := d
  dsimp only at hd hf
  subst hd
  subst hf
  rfl
/-- What two changes of the sector x leave of it. -/
def torn (s p q : List UInt8) (j k : Nat) : List UInt8 := q.take k ++ (p.take j ++ s.drop j).drop k
theorem torn_get (s p q : List UInt8) (j k i : Nat) (u : UInt8) (_ : s.length = 64) (hp : p.length = 64) (hq : q.length = 64) (hj : j ≤ 64) (hk : k ≤ 64) (h : (torn s p q j k)[i]? = some u) : s[i]? = some u ∨ p[i]? = some u ∨ q[i]? = some u := by
  unfold torn at h
  rcases Nat.lt_or_ge i k with h1 | h1
  · rw [List.getElem?_append_left (by rw [List.length_take]; omega), List.getElem?_take, if_pos h1] at h
    exact .inr (.inr h)
  · rw [List.getElem?_append_right (by rw [List.length_take]; omega), List.length_take, List.getElem?_drop, show k + (i - min k q.length) = i from by omega] at h
    rcases Nat.lt_or_ge i j with h2 | h2
    · rw [List.getElem?_append_left (by rw [List.length_take]; omega), List.getElem?_take, if_pos h2] at h
      exact .inr (.inl h)
    · rw [List.getElem?_append_right (by rw [List.length_take]; omega), List.length_take, List.getElem?_drop, show j + (i - min j p.length) = i from by omega] at h
      exact .inl h
theorem torn_len (s p q : List UInt8) (j k : Nat) (hs : s.length = 64) (hp : p.length = 64) (hq : q.length = 64) (hj : j ≤ 64) (hk : k ≤ 64) : (torn s p q j k).length = 64 := by
  unfold torn
  rw [List.length_append, List.length_take, List.length_drop, List.length_append, List.length_take, List.length_drop]
  omega
theorem Dv.crash_two (d : Dv) (x : Int) (p q : List UInt8) (hw : d.ws = [(x, p), (x, q)]) (ks : List Int) : (d.crash ks).S x = torn (d.S x) p q (kept1 ks 0) (kept1 ks 1) ∧ (d.crash ks).ws = [] ∧ (d.crash ks).down = false ∧ (d.crash ks).fuse = 0 ∧ (d.crash ks).n = d.n := by
  refine ⟨?_, rfl, rfl, rfl, (Dv.crash1_ws d ks d.ws.length).2.1⟩
  show (d.crash1 ks d.ws.length).S x = _
  rw [hw]
  show (d.crash1 ks 2).S x = _
  rw [Dv.crash1, hw]
  show (if x = x then _ else _) = _
  rw [if_pos rfl]
  have h1 : (d.crash1 ks 1).S x = p.take (kept1 ks 0) ++ (d.S x).drop (kept1 ks 0) := by
    rw [Dv.crash1, hw]
    show (if x = x then _ else _) = _
    rw [if_pos rfl]
    rfl
  rw [h1]
  rfl
theorem Dv.calm_bytes (d : Dv) (hw : d.ws = []) (x : Int) : d.bytes x 1 = d.S x := by
  show [] ++ d.seen (x + ((0 : Nat) : Int)) = _
  rw [List.nil_append, show x + ((0 : Nat) : Int) = x from by omega]
  unfold Dv.seen
  rw [hw]
  rfl

end Go.Proofs.Ytddnjlnhnnpgiaa

namespace Go.Proofs.Ytddnjlnhnnpgiaa
set_option maxRecDepth 20000
open Go.RowKit

def Own (w : World) (B g : Nat) (N : Nat → Prop) (M : Nat) (d : Dv) : Prop := ∃ bs bl v k, Dev w B g bs bl v k d ∧ k + d.ws.length ≤ M ∧ d.done ≤ M ∧ ∀ i, Foot g bs bl v i → N i
section
variable {w w' : World} {B g M M' : Nat} {N N' G : Nat → Prop} {d : Dv}
theorem Own.ok (h : Own w B g N M d) : d.Ok := by obtain ⟨_, _, _, _, h, _⟩ := h; exact h.ok
theorem Own.c4 (h : Own w B g N M d) : w.cell? ⟨g, 4, none⟩ = some (.bool d.down) := by obtain ⟨_, _, _, _, h, _⟩ := h; exact h.c4
theorem Own.lt (h : Own w B g N M d) : g < w.heap.size := by obtain ⟨_, _, _, _, h, _⟩ := h; exact h.lt
theorem Own.keeps (h : Own w B g N M d) (kp : Keeps G w w') (hG : ∀ i, G i → i < w.heap.size → ¬ N i) : Own w' B g N M d := by
  obtain ⟨bs, bl, v, k, h1, h2, h3, h4⟩ := h
  exact ⟨bs, bl, v, k, h1.keeps (F := fun i => G i ∧ i < w.heap.size) ⟨kp.os, kp.tape, kp.output, kp.size, fun i hi hn => kp.block i hi (fun hg => hn ⟨hg, hi⟩)⟩ (fun i hi hf => hG i hi.1 hi.2 (h4 i hf)), h2, h3, h4⟩
theorem Own.below (h : Own w B g N M d) (hb : Below w.heap.size w w') : Own w' B g N M d := h.keeps (G := fun _ => False) (Keeps.of_below hb) (fun _ hi => hi.elim)
theorem Own.mono (h : Own w B g N M d) (hM : M ≤ M') (hN : ∀ i, i < w.heap.size → N i → N' i) : Own w B g N' M' d := by
  obtain ⟨bs, bl, v, k, h1, h2, h3, h4⟩ := h
  exact ⟨bs, bl, v, k, h1, by omega, by omega, fun i hi => hN i (h1.foot_lt hi).2 (h4 i hi)⟩
/-- What a call leaves. -/
def Left (w : World) (B g : Nat) (N : Nat → Prop) (M : Nat) (d : Dv) (w' : World) : Prop := Own w' B g (fun i => N i ∨ w.heap.size ≤ i) M d ∧ Keeps N w w'
theorem Left.of {bs bl : Nat} {v : Value} (hN : ∀ i, Foot g bs bl v i → N i) (h : Dleft w B g bs bl v M d w') : Left w B g N M d w' := by
  obtain ⟨bs', bl', v', k', h1, h2, h3, h4, h5⟩ := h
  exact ⟨⟨bs', bl', v', k', h1, h2, h3, fun i hi => (h5 i hi).imp (hN i) id⟩, h4.wide hN⟩

theorem own_crash (h : Own w B g N M d) (hM : M ≤ 100000) (A : Option Addr) (n c : Nat) (ks : List Int) (hl : Rd w w.heap.size 1 A n c (ks.map (Value.int .i64))) (hn : n ≤ 1000000) (hsep : 0 < n → ∀ b o, A = some ⟨b, o, none⟩ → ¬ N b) :
    Calls Try.prog 17 #[.pointer (some ⟨g, 0, none⟩), .slice A n c] w fun e w' => e = .returned (.tuple #[]) ∧ Left w B g N (M + 16) (d.crash ks) w' := by
  obtain ⟨bs, bl, v, k, h1, h2, h3, h4⟩ := h
  exact (crash_all h1 h2 h3 hM A n c ks hl hn (fun h0 b o e hf => hsep h0 b o e (h4 b hf))).mono fun e w' h => ⟨h.1, Left.of h4 h.2⟩
theorem own_flush (h : Own w B g N M d) (hM : M ≤ 100000) :
    Calls Try.prog 39 #[.pointer (some ⟨g, 0, none⟩)] w fun e w' => e = .returned (.int .i64 d.flush.2) ∧ Left w B g N (M + 16) d.flush.1 w' := by
  obtain ⟨bs, bl, v, k, h1, h2, h3, h4⟩ := h
  exact (flush_all h1 h2 h3 hM).mono fun e w' h => ⟨h.1, Left.of h4 h.2⟩
theorem own_fuse (h : Own w B g N M d) (n : Int) (hn : Key n) :
    Calls Try.prog 20 #[.pointer (some ⟨g, 0, none⟩), .int .i64 n] w fun e w' => e = .returned (.tuple #[]) ∧ Left w B g N M (d.fused n) w' := by
  obtain ⟨bs, bl, v, k, h1, h2, h3, h4⟩ := h
  refine (fuse_any h1 n hn).mono ?_
  rintro e w' ⟨rfl, hD, hg⟩
  exact ⟨rfl, ⟨bs, bl, v, k, hD, h2, h3, fun i hi => .inl (h4 i hi)⟩, ((Keeps.refl N w).grown hg (fun j e => by cases e; exact .inl (h4 _ (.inl rfl))))⟩
/-- A write within the device, while it has power. -/
theorem own_write (h : Own w B g N M d) (hM : M ≤ 100000) (hd : d.down = false) (x : Int) (A : Option Addr) (n c : Nat) (l : List UInt8) (hl : Rd w w.heap.size 1 A n c (u8s l)) (hsep : 0 < n → ∀ b o, A = some ⟨b, o, none⟩ → ¬ N b) (hx : 0 ≤ x) (hm : x + (n + 63) / 64 ≤ d.n) (hn6 : n ≤ 4096) :
    Calls Try.prog 38 #[.pointer (some ⟨g, 0, none⟩), .int .i64 x, .slice A n c] w fun e w' => e = .returned (.int .i64 (d.write x l ((n + 63) / 64)).2) ∧ Left w B g N (M + 64) (d.write x l ((n + 63) / 64)).1 w' := by
  obtain ⟨bs, bl, v, k, h1, h2, h3, h4⟩ := h
  refine (write_good h1 hd x A n c l hl (fun h0 b o e hf => hsep h0 b o e (h4 b hf)) (by omega) (by omega) hx hm (by omega)).mono ?_
  rintro e w' ⟨rfl, v', hD, hK, hv⟩
  have hr := Dv.write_rest d x l ((n + 63) / 64)
  have hq : (n + 63) / 64 ≤ 64 := by omega
  refine ⟨rfl, ⟨bs, bl, v', k, hD, by omega, by omega, fun i hi => ?_⟩, hK.wide h4⟩
  rcases hi with hi | hi | hi | hi
  · exact .inl (h4 _ (.inl hi))
  · exact .inl (h4 _ (.inr (.inl hi)))
  · exact .inl (h4 _ (.inr (.inr (.inl hi))))
  · rcases hv i hi with h1 | h1
    · exact .inl (h4 _ (.inr (.inr (.inr h1))))
    · exact .inr h1
/-- What is read, while it has power: a row of one's own. -/
theorem own_read (h : Own w B g N M d) (hd : d.down = false) (x : Int) (m : Nat) (hx : 0 ≤ x) (hm : x + m ≤ d.n) :
    Calls Try.prog 24 #[.pointer (some ⟨g, 0, none⟩), .int .i64 x, .int .i64 (m : Int)] w fun e w' => ∃ v, e = .returned (.tuple #[v, .int .i64 0]) ∧ w'.ownsRow w.heap.size 5 1 v (64 * m) (u8s (d.bytes x m)) ∧ Below w.heap.size w w' := by
  obtain ⟨bs, bl, v, k, h1, h2, h3, h4⟩ := h
  exact read_good h1 hd x m hx hm
/-- The power is gone: only that is told. -/
theorem own_read_down (h : Own w B g N M d) (hd : d.down = true) (x m : Int) :
    Calls Try.prog 24 #[.pointer (some ⟨g, 0, none⟩), .int .i64 x, .int .i64 m] w fun e w' => e = .returned (.tuple #[.slice none 0 0, .int .i64 50]) ∧ w = w' :=
  read_down g x m w (by rw [← hd]; exact h.c4)
theorem own_write_down (h : Own w B g N M d) (hd : d.down = true) (x : Int) (A : Option Addr) (n c : Nat) :
    Calls Try.prog 38 #[.pointer (some ⟨g, 0, none⟩), .int .i64 x, .slice A n c] w fun e w' => e = .returned (.int .i64 50) ∧ Below w.heap.size w w' :=
  write_down g x A n c w (by rw [← hd]; exact h.c4)
end
theorem Own.of_pair {w : World} {B g q M : Nat} {F : Nat → Prop} {d : Dv} (h : Pair w B g q F M d) : Own w B g F M d := by
  obtain ⟨bs, bl, v, k, vs, vl, r, h1, h2, h3, _, _, _, _, h8⟩ := h
  exact ⟨bs, bl, v, k, h1, h2, h3, fun i hi => h8 i (.inl hi)⟩

end Go.Proofs.Ytddnjlnhnnpgiaa

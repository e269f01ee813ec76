/- A device of one's own: whose blocks lie within N; what each call leaves of it. -/
import Derived.Test.YtdmcbojncgdccaaTorn
namespace Go.Proofs.Ytdmcbojncgdccaa
open Go.RowKit

def Own (w : World) (B g : Nat) (N : Nat → Prop) (M : Nat) (d : Dv) : Prop := ∃ bs bl v k, Dev w B g bs bl v k d ∧ k + d.ws.length ≤ M ∧ d.done ≤ M ∧ ∀ i, Foot g bs bl v i → N i
section
variable {w w' : World} {B g M M' : Nat} {N N' G : Nat → Prop} {d : Dv}
theorem Own.ok (h : Own w B g N M d) : d.Ok := by obtain ⟨_, _, _, _, h, _⟩ := h; exact h.ok
theorem Own.c4 (h : Own w B g N M d) : w.cell? ⟨g, 4, none⟩ = some (.bool d.down) := by obtain ⟨_, _, _, _, h, _⟩ := h; exact h.c4
theorem Own.lt (h : Own w B g N M d) : g < w.heap.size := by obtain ⟨_, _, _, _, h, _⟩ := h; exact h.lt
theorem Own.keeps (h : Own w B g N M d) (kp : Keeps G w w') (hG : ∀ i, G i → i < w.heap.size → ¬ N i) : Own w' B g N M d := by
  obtain ⟨bs, bl, v, k, h1, h2, h3, h4⟩ := h
  exact ⟨bs, bl, v, k, h1.keeps (F := fun i => G i ∧ i < w.heap.size) ⟨kp.os, kp.tape, kp.output, kp.size, fun i hi hn => kp.block i hi (fun hg => hn ⟨hg, hi⟩)⟩ (fun i hi hf => hG i hi.1 hi.2 (h4 i hf)), h2, h3, h4⟩
theorem Own.below (h : Own w B g N M d) (hb : Below w.heap.size w w') : Own w' B g N M d := h.keeps (G := fun _ => False) (Keeps.of_below hb) (fun i hi => hi.elim)
theorem Own.mono (h : Own w B g N M d) (hM : M ≤ M') (hN : ∀ i, i < w.heap.size → N i → N' i) : Own w B g N' M' d := by
  obtain ⟨bs, bl, v, k, h1, h2, h3, h4⟩ := h
  exact ⟨bs, bl, v, k, h1, by omega, by omega, fun i hi => hN i (h1.foot_lt hi).2 (h4 i hi)⟩
/-- What a call leaves. -/
def Left (w : World) (B g : Nat) (N : Nat → Prop) (M : Nat) (d : Dv) (w' : World) : Prop := Own w' B g (fun i => N i ∨ w.heap.size ≤ i) M d ∧ Keeps N w w'
theorem Left.of {bs bl : Nat} {v : Value} (hN : ∀ i, Foot g bs bl v i → N i) (h : Dleft w B g bs bl v M d w') : Left w B g N M d w' := by
  obtain ⟨bs', bl', v', k', h1, h2, h3, h4, h5⟩ := h
  exact ⟨⟨bs', bl', v', k', h1, h2, h3, fun i hi => (h5 i hi).imp (hN i) id⟩, h4.wide hN⟩

theorem own_crash (h : Own w B g N M d) (hM : M ≤ 100000) (A : Option Addr) (n c : Nat) (ks : List Int) (hl : Rd w w.heap.size 1 A n c (ks.map (Value.int .i64))) (hn : n ≤ 1000000) (hsep : 0 < n → ∀ b o, A = some ⟨b, o, none⟩ → ¬ N b) :
    Calls Try.prog 15 #[.pointer (some ⟨g, 0, none⟩), .slice A n c] w fun e w' => e = .returned (.tuple #[]) ∧ Left w B g N (M + 16) (d.crash ks) w' := by
  obtain ⟨bs, bl, v, k, h1, h2, h3, h4⟩ := h
  exact (crash_all h1 h2 h3 hM A n c ks hl hn (fun h0 b o e hf => hsep h0 b o e (h4 b hf))).mono fun e w' h => ⟨h.1, Left.of h4 h.2⟩
theorem own_flush (h : Own w B g N M d) (hM : M ≤ 100000) :
    Calls Try.prog 12 #[.pointer (some ⟨g, 0, none⟩)] w fun e w' => e = .returned (.int .i64 d.flush.2) ∧ Left w B g N (M + 16) d.flush.1 w' := by
  obtain ⟨bs, bl, v, k, h1, h2, h3, h4⟩ := h
  exact (flush_all h1 h2 h3 hM).mono fun e w' h => ⟨h.1, Left.of h4 h.2⟩
theorem own_fuse (h : Own w B g N M d) (n : Int) (hn : Key n) :
    Calls Try.prog 18 #[.pointer (some ⟨g, 0, none⟩), .int .i64 n] w fun e w' => e = .returned (.tuple #[]) ∧ Left w B g N M (d.fused n) w' := by
  obtain ⟨bs, bl, v, k, h1, h2, h3, h4⟩ := h
  refine (fuse_any h1 n hn).mono ?_
  rintro e w' ⟨rfl, hD, hg⟩
  exact ⟨rfl, ⟨bs, bl, v, k, hD, h2, h3, fun i hi => .inl (h4 i hi)⟩, ((Keeps.refl N w).grown hg (fun j e => by cases e; exact .inl (h4 _ (.inl rfl))))⟩
/-- A write within the device, while it has power. -/
theorem own_write (h : Own w B g N M d) (hM : M ≤ 100000) (hd : d.down = false) (x : Int) (A : Option Addr) (n c : Nat) (l : List UInt8) (hl : Rd w w.heap.size 1 A n c (u8s l)) (hsep : 0 < n → ∀ b o, A = some ⟨b, o, none⟩ → ¬ N b) (hx : 0 ≤ x) (hm : x + (n + 63) / 64 ≤ d.n) (hn6 : n ≤ 4096) :
    Calls Try.prog 16 #[.pointer (some ⟨g, 0, none⟩), .int .i64 x, .slice A n c] w fun e w' => e = .returned (.int .i64 (d.write x l ((n + 63) / 64)).2) ∧ Left w B g N (M + 64) (d.write x l ((n + 63) / 64)).1 w' := by
  obtain ⟨bs, bl, v, k, h1, h2, h3, h4⟩ := h
  refine (write_good h1 hd x A n c l hl (fun h0 b o e hf => hsep h0 b o e (h4 b hf)) (by omega) (by omega) hx hm (by omega)).mono ?_
  rintro e w' ⟨rfl, v', hD, hK, hv⟩
  have hr := Dv.write_rest d x l ((n + 63) / 64)
  have hq : (n + 63) / 64 ≤ 64 := by omega
  refine ⟨rfl, ⟨bs, bl, v', k, hD, by omega, by omega, fun i hi => ?_⟩, hK.wide h4⟩
  rcases hi with hi | hi | hi | hi
  · exact .inl (h4 _ (.inl hi))
  · exact .inl (h4 _ (.inr (.inl hi)))
  · exact .inl (h4 _ (.inr (.inr (.inl hi))))
  · rcases hv i hi with h1 | h1
    · exact .inl (h4 _ (.inr (.inr (.inr h1))))
    · exact .inr h1
/-- What is read, while it has power: a row of one's own. -/
theorem own_read (h : Own w B g N M d) (hd : d.down = false) (x : Int) (m : Nat) (hx : 0 ≤ x) (hm : x + m ≤ d.n) :
    Calls Try.prog 13 #[.pointer (some ⟨g, 0, none⟩), .int .i64 x, .int .i64 (m : Int)] w fun e w' => ∃ v, e = .returned (.tuple #[v, .int .i64 0]) ∧ w'.ownsRow w.heap.size 5 1 v (64 * m) (u8s (d.bytes x m)) ∧ Below w.heap.size w w' := by
  obtain ⟨bs, bl, v, k, h1, h2, h3, h4⟩ := h
  exact read_good h1 hd x m hx hm
/-- The power is gone: only that is told. -/
theorem own_read_down (h : Own w B g N M d) (hd : d.down = true) (x m : Int) :
    Calls Try.prog 13 #[.pointer (some ⟨g, 0, none⟩), .int .i64 x, .int .i64 m] w fun e w' => e = .returned (.tuple #[.slice none 0 0, .int .i64 50]) ∧ w = w' :=
  read_down g x m w (by rw [← hd]; exact h.c4)
theorem own_write_down (h : Own w B g N M d) (hd : d.down = true) (x : Int) (A : Option Addr) (n c : Nat) :
    Calls Try.prog 16 #[.pointer (some ⟨g, 0, none⟩), .int .i64 x, .slice A n c] w fun e w' => e = .returned (.int .i64 50) ∧ Below w.heap.size w w' :=
  write_down g x A n c w (by rw [← hd]; exact h.c4)
end
theorem Own.of_pair {w : World} {B g q M : Nat} {F : Nat → Prop} {d : Dv} (h : Pair w B g q F M d) : Own w B g F M d := by
  obtain ⟨bs, bl, v, k, vs, vl, r, h1, h2, h3, _, _, _, _, h8⟩ := h
  exact ⟨bs, bl, v, k, h1, h2, h3, fun i hi => h8 i (.inl hi)⟩

end Go.Proofs.Ytdmcbojncgdccaa

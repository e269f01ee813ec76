/- The chapter's example of a chain. -/
import Derived.Test.YtlpckhjmbfeegaaCh
namespace Go.Proofs.Ytlpckhjmbfeegaa
open Go.RowKit
set_option maxRecDepth 20000
theorem own_lit {w : World} {base g n sz : Nat} {e : TypeId} {cs : Array Value} (h : w.heap[g]? = some (.cells cs e (0, 0))) (hs : cs.size = n * sz) (hb : base ≤ g) (hn : n ≤ maxLen) : w.ownsRow base e sz (.slice (some ⟨g, 0, none⟩) n n) n cs.toList :=
  ⟨by simpa using hs, .inr ⟨g, n, cs, rfl, hb, h, Nat.le_refl _, hn, hs, by rw [List.take_of_length_le (by simp [hs])]⟩⟩
section
variable {w w' w1 : World} {B g : Nat} {v : Value} {t : Cv}
theorem Ck.keepsB {W W' : World} (h : Ck W B g v t) (k : Keeps (Foot g v) W W') (hB : B ≤ W.heap.size) : Below B W W' := k.below hB (fun i hi => (h.foot hi).1)
/-- A literal's items beside a chain. -/
theorem Beside.lit (h : Ck w B g v t) {cs : Array Value} {l : List It} {n : Nat} (hc : its l = cs.toList) (hn : l.length = n) (h5 : n ≤ 5000) {ty : TypeId} : Beside (w.alloc (.cells cs ty)) g v (some ⟨w.heap.size, 0, none⟩) n n l := by
  refine ⟨⟨Nat.le_refl _, by unfold maxLen; omega, by rw [its_len, hn], fun _ => ⟨w.heap.size, 0, rfl, by simp, fun j u hu => ?_⟩⟩, hn, h5, fun _ b o hA hf => ?_⟩
  · rw [cell_of_row _ w.heap.size (0 + j) cs ty (0, 0) (heap_alloc_new w _)]
    rw [hc] at hu
    simpa using hu
  · cases hA
    have := (h.foot hf).2
    omega
end
def L3 : List It := [⟨1, 0, []⟩, ⟨1, 0, []⟩, ⟨2, 0, []⟩]
def T0 : Cv := ⟨0, 0, []⟩
def T3 : Cv := ⟨0, 0, L3⟩
def T4 : Cv := ⟨0, 0, [⟨1, 0, []⟩, ⟨3, 0, []⟩]⟩
theorem e_stop : T0.stop T0.last L3 = 0 := by decide
theorem e_put : T0.put T0.last L3 = T3 := by unfold Cv.put; rw [e_stop]; rfl
theorem e_takes : T3.takes 1 1 [⟨3, 0, []⟩] = true := by decide
theorem e_take : T3.take 1 1 [⟨3, 0, []⟩] = T4 := by
  have h1 : T3.meets 1 1 = true := by decide
  have h2 : T3.left 1 [⟨3, 0, []⟩] = some (1, [⟨3, 0, []⟩]) := by rfl
  have h3 : T3.stop 1 [⟨3, 0, []⟩] = 0 := by decide
  unfold Cv.take
  rw [if_pos h1, h2]
  show T3.put 1 [⟨3, 0, []⟩] = T4
  unfold Cv.put
  rw [if_pos h3]
  rfl
theorem e_to : T3.takeTo 1 [⟨3, 0, []⟩] = 2 := by rfl
set_option maxHeartbeats 2000000 in
theorem lives29 (w : World) : Calls Try.prog 10 #[] w fun e w' => e = .returned (.bool true) ∧ Below w.heap.size w w' := by
  have hN := cnew_any 0 0 w (by omega)
  rw [show ((0 : Nat) : Int) = 0 from rfl] at hN
  have HN := Lib.hid hN
  clear hN
  unfold New at HN
  go_enter Try.func10, Try.ntmps10
  go_wp2_with (first
    | (go_at_call 11; refine HN.out.mono ?_; rintro e w1 ⟨rfl, hc1, hb1⟩
       have HC1 := Lib.hid hc1
       have HB1 := Lib.hid hb1
       clear hc1 hb1)
    | (go_at_call 13
       have hb0 : Below w1.heap.size w1 (w1.alloc (.cells #[.int .u64 1, .int .i64 0, .string ⟨#[]⟩, .int .u64 1, .int .i64 0, .string ⟨#[]⟩, .int .u64 2, .int .i64 0, .string ⟨#[]⟩] 47)) := (Below.refl _ _).alloc (Nat.le_refl _) _
       have hbs := Beside.lit (ty := 47) (cs := #[.int .u64 1, .int .i64 0, .string ⟨#[]⟩, .int .u64 1, .int .i64 0, .string ⟨#[]⟩, .int .u64 2, .int .i64 0, .string ⟨#[]⟩]) (l := L3) (n := 3) HC1.out rfl rfl (by omega)
       have ha := add_any (HC1.out.below hb0) (Nat.le_trans HB1.out.size hb0.size) hbs (by decide)
       unfold Puts at ha
       rw [show (⟨0, 0, []⟩ : Cv) = T0 from rfl, e_stop, e_put] at ha
       refine ha.mono ?_
       rintro e w2 ⟨rfl, v2, hc2, hk2, _⟩
       have HC2 := Lib.hid hc2
       have HB2 := Lib.hid (HB1.out.trans ((hb0.mono HB1.out.size).trans ((HC1.out.below hb0).keepsB hk2 (Nat.le_trans HB1.out.size hb0.size))))
       clear hc2 hk2 ha hbs hb0)
    | (go_at_call 16
       have hb0 : Below w2.heap.size w2 (w2.alloc (.cells #[.int .u64 3, .int .i64 0, .string ⟨#[]⟩] 47)) := (Below.refl _ _).alloc (Nat.le_refl _) _
       have hbs := Beside.lit (ty := 47) (cs := #[.int .u64 3, .int .i64 0, .string ⟨#[]⟩]) (l := [⟨3, 0, []⟩]) (n := 1) HC2.out rfl rfl (by omega)
       have ha := take_any (HC2.out.below hb0) (Nat.le_trans HB2.out.size hb0.size) 1 1 hbs (by decide)
       unfold Takes at ha
       rw [e_takes, e_take, e_to] at ha
       refine ha.mono ?_
       rintro e w3 ⟨rfl, v3, hc3, hk3, _⟩
       have hg := get_any hc3 2
       unfold Got at hg
       rw [show T4.at_ 2 = some ⟨3, 0, []⟩ from rfl] at hg
       simp only [Option.getD_some, Option.isSome_some, It.cells] at hg
       have HG := Lib.hid hg
       clear hg
       have HC3 := Lib.hid hc3
       have HB3 := Lib.hid (HB2.out.trans ((hb0.mono HB2.out.size).trans ((HC2.out.below hb0).keepsB hk3 (Nat.le_trans HB2.out.size hb0.size))))
       clear hc3 hk3 ha hbs hb0)
    | (go_at_call 25; refine HG.out.mono ?_; rintro e w4 ⟨rfl, hb4⟩
       have HB4 := Lib.hid (HB3.out.trans (hb4.mono HB3.out.size))
       have HL : Hid (∀ W, Below w4.heap.size w4 W → Calls Try.prog 21 #[.pointer (some ⟨w.heap.size, 0, none⟩)] W fun e w' => e = .returned (.int .u64 2) ∧ W = w') := Lib.hid (fun W hb => last_any ((HC3.out.below hb4).below hb))
       clear hb4)
    | (go_at_call 21; refine (HL.out _ ((Below.refl _ _).alloc (Nat.le_refl _) _)).mono ?_; rintro e w5 ⟨rfl, rfl⟩)
    | fail)
  go_ret
  exact ⟨rfl, HB4.out.alloc HB4.out.size _⟩
end Go.Proofs.Ytlpckhjmbfeegaa

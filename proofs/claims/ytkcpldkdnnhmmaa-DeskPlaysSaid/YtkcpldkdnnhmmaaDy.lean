/- Begin; who goes is told, and waits no more. -/
import Derived.Test.YtkcpldkdnnhmmaaDx
namespace Go.Proofs.Ytkcpldkdnnhmmaa
open Go.RowKit
set_option maxRecDepth 20000

theorem u64w' (x : Int) (h : 0 ≤ x) (h2 : x < 18446744073709551616) : IntKind.u64.wrap x = x := Qu.u64w x h h2
theorem Dk.Ok.turn {t : Dk} (h : t.Ok) (r : Nat) : (t.turn r).Ok := ⟨h.n1, h.n7, h.sf, h.hl, h.room, h.ix⟩
theorem begin_any {w : World} {B g : Nat} {v : Value} {t : Dk} (h : Dg w B g v t) (hr : t.round < 1000000) : Calls Try.prog 19 #[.pointer (some ⟨g, 0, none⟩)] w fun e w' => e = .returned (.int .u64 ((t.round + 1 : Nat) : Int)) ∧ Dg w' B g v (t.turn (t.round + 1)) ∧ Keeps (fun i => i = g) w w' := by
  have HM := Lib.hid (made_any h)
  have c2 := h.c2
  have f2 := h.fr 2
  have hw := u64w' ((t.round : Int) + 1) (by omega) (by omega)
  have hq := h.cell (j := 2) (u := .int .u64 ((t.round + 1 : Nat) : Int)) (t' := t.turn (t.round + 1)) (Dk.set_round t v (t.round + 1)) rfl (h.ok.turn _)
  have hk : Keeps (fun i => i = g) w (w.setCell ⟨g, 2, none⟩ (.int .u64 ((t.round + 1 : Nat) : Int))) := Keeps.set w g 2 _
  have he : ((t.round + 1 : Nat) : Int) = (t.round : Int) + 1 := by omega
  rw [he] at hq hk ⊢
  have HQ := Lib.hid hq
  have HK := Lib.hid hk
  have d2 : (w.setCell ⟨g, 2, none⟩ (.int .u64 ((t.round : Int) + 1))).cell? ⟨g, 2, none⟩ = some (.int .u64 ((t.round : Int) + 1)) := by
    have := hq.1.c2
    rw [this]
    rfl
  have hr1 : (t.round : Int) + 1 ≤ 1000000 := by omega
  clear h hq hk he hr
  go_enter Try.func19, Try.ntmps19
  go_wp2_with (first
    | (go_at_call 34; refine HM.out.mono ?_; rintro e w2 ⟨rfl, rfl⟩)
    | fail)
  go_ret
  exact ⟨rfl, HQ.out.1, HK.out⟩
theorem own_base {w : World} {B B' n sz : Nat} {e : TypeId} {v : Value} {xs : List Value} (ho : w.ownsRow B e sz v n xs) (h : B' ≤ B) : w.ownsRow B' e sz v n xs := by
  obtain ⟨h1, h2⟩ := ho
  rcases h2 with h2 | ⟨g, cap, cur, rfl, hbg, r⟩
  · exact ⟨h1, .inl h2⟩
  · exact ⟨h1, .inr ⟨g, cap, cur, rfl, Nat.le_trans h hbg, r⟩⟩
/-- Who goes is told; who stays waits on. -/
def Freed (w : World) (B g : Nat) (v : Value) (t : Dk) (p : Wt → Bool) (e : Ending) (w' : World) : Prop := ∃ A c, e = .returned (.slice A (t.l.filter p).length c) ∧ w'.ownsRow w.heap.size 55 6 (.slice A (t.l.filter p).length c) (t.l.filter p).length (wts (t.l.filter p)) ∧ Mv w B g v (t.wait (t.l.filter fun x => !p x)) w'
theorem release_any {w : World} {B g : Nat} {v : Value} {t : Dk} {F : FuncId} {caps : Array Value} {p : Wt → Bool} (h : Dg w B g v t) (hB : B ≤ w.heap.size) (hF : Tells w F caps p t.l) (hE : Enters F) :
    Calls Try.prog 37 #[.pointer (some ⟨g, 0, none⟩), .func (.func F) #[] caps] w (Freed w B g v t p) := by
  obtain ⟨A, cc, rfl⟩ := h.form
  have hroom := h.ok.room
  have HP := Lib.hid (part_any ((ownsRow_rd h.own).more (Nat.le_refl _)) rfl (by omega) hF hE)
  have HH := Lib.hid h
  have c10 := h.c10
  have HB := Lib.hid hB
  have HL1 := Lib.hid (show (t.l.filter fun x => !p x).length ≤ 64 from Nat.le_trans (List.length_filter_le _ _) hroom)
  have HX := Lib.hid (fun x (hx : x ∈ t.l.filter fun x => !p x) => h.ok.ix x (List.mem_filter.1 hx).1)
  unfold Freed
  unfold Parted at HP
  generalize t.l.filter p = la at *
  generalize (t.l.filter fun x => !p x) = lb at *
  clear h hF hE hroom hB
  go_enter Try.func37, Try.ntmps37
  go_wp2_with (first
    | (go_at_call 50; refine HP.out.mono ?_; rintro e w1 ⟨A1, c1, A2, c2, rfl, ht⟩
       have HT := Lib.hid ht
       have h1 := HH.out.below ht.bel
       have H1 := Lib.hid h1
       have d0 := h1.c10
       have f0 := h1.fr 10
       clear ht h1)
    | fail)
  go_ret
  have hset := Keeps.set w1 g 10 (.slice A2 lb.length c2)
  have hlt := HH.out.lt
  refine ⟨A1, c1, rfl, hset.own HT.out.oa (fun q hq e => ?_), ?_⟩
  · have := (HT.out.oa.lt q hq).1
    omega
  · exact HH.out.waits (l2 := lb) (Keeps.of_below HT.out.bel) (own_base HT.out.ob HB.out) (.inr fun q hq => (HT.out.ob.lt q hq).1) HL1.out HX.out
end Go.Proofs.Ytkcpldkdnnhmmaa

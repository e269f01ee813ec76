/- Who goes and who stays; what is told of a list of waits. -/
import Derived.Test.YtkcpldkdnnhmmaaDp
import Derived.Deep.DeepCutAuto
import Derived.Deep.CutBlock
namespace Go.Proofs.Ytkcpldkdnnhmmaa
open Go.RowKit
set_option maxRecDepth 20000

theorem filter_take {α : Type} (p : α → Bool) (l : List α) {i : Nat} {x : α} (h : l[i]? = some x) : (l.take (i + 1)).filter p = (l.take i).filter p ++ if p x = true then [x] else [] := by
  rw [List.take_add_one, h, List.filter_append]
  cases hp : p x <;> simp [hp]
theorem owns_below {w w' : World} {B n sz : Nat} {e : TypeId} {v : Value} {xs : List Value} (ho : w.ownsRow B e sz v n xs) (hb : Below w.heap.size w w') : w'.ownsRow B e sz v n xs := (Keeps.of_below (F := fun _ => False) hb).own ho (fun _ _ h => h)
theorem Src.lit' {P : Program} {w : World} {b sz n : Nat} {tx e e' : TypeId} (hb : b = w.heap.size) (hk : P.underlying tx = some (.slice e')) (cs : Array Value) (hn : cs.size = n * sz) (h1 : ∀ u ∈ cs.toList, u.oneCell' = true) :
    Src P sz tx (.slice (some ⟨b, 0, none⟩) n n) n cs.toList (w.alloc (.cells cs e)) := by
  subst hb
  exact Src.lit hk cs hn h1
/-- Two rows of one's own, apart. -/
structure Two (w wr : World) (a b : Value) (l m : List Wt) : Prop where
  bel : Below w.heap.size w wr
  oa : wr.ownsRow w.heap.size 55 6 a l.length (wts l)
  ob : wr.ownsRow w.heap.size 55 6 b m.length (wts m)
  ne : ∀ q, a.ownBlock = some q → b.ownBlock ≠ some q
theorem Two.below {w wr w' : World} {a b : Value} {l m : List Wt} (h : Two w wr a b l m) (hb : Below wr.heap.size wr w') : Two w w' a b l m :=
  ⟨h.bel.trans (hb.mono h.bel.size), owns_below h.oa hb, owns_below h.ob hb, h.ne⟩
theorem own_grown {w w' : World} {B n sz : Nat} {e : TypeId} {v : Value} {xs : List Value} {row : Option Nat} (ho : w.ownsRow B e sz v n xs) (hg : w.grownBy w' row) (hne : ∀ q, v.ownBlock = some q → row ≠ some q) : w'.ownsRow B e sz v n xs := by
  obtain ⟨h1, h2⟩ := ho
  rcases h2 with h2 | ⟨g, cap, cur, rfl, hbg, hr, r⟩
  · exact ⟨h1, .inl h2⟩
  · exact ⟨h1, .inr ⟨g, cap, cur, rfl, hbg, (hg.block g (Array.getElem?_eq_some_iff.1 hr).1 (fun e => hne g rfl e.symm)).trans hr, r⟩⟩
theorem Two.appA {w wr w' : World} {a a' b : Value} {l m : List Wt} {x : Wt} (h : Two w wr a b l m) (ho : w'.ownsRow w.heap.size 55 6 a' (l.length + 1) (wts l ++ x.cells.toList)) (hg : wr.grownBy w' a.ownBlock) (hat : a'.ownBlock = a.ownBlock ∨ a'.ownBlock = some wr.heap.size) : Two w w' a' b (l ++ [x]) m := by
  refine ⟨h.bel.grown hg h.bel.size (fun k e => (h.oa.lt k e).1), by rw [List.length_append, wts_app, wts_one1]; exact ho, own_grown h.ob hg (fun q hq e => h.ne q e hq), fun q hq => ?_⟩
  rcases hat with hat | hat
  · exact h.ne q (hat ▸ hq)
  · rw [hat] at hq
    cases hq
    intro e
    have := (h.ob.lt _ e).2
    omega
theorem Two.appB {w wr w' : World} {a b b' : Value} {l m : List Wt} {x : Wt} (h : Two w wr a b l m) (ho : w'.ownsRow w.heap.size 55 6 b' (m.length + 1) (wts m ++ x.cells.toList)) (hg : wr.grownBy w' b.ownBlock) (hat : b'.ownBlock = b.ownBlock ∨ b'.ownBlock = some wr.heap.size) : Two w w' a b' l (m ++ [x]) := by
  refine ⟨h.bel.grown hg h.bel.size (fun k e => (h.ob.lt k e).1), own_grown h.oa hg (fun q hq e => h.ne q hq e), by rw [List.length_append, wts_app, wts_one1]; exact ho, fun q hq e => ?_⟩
  rcases hat with hat | hat
  · exact h.ne q hq (hat ▸ e)
  · rw [hat] at e
    cases e
    have := (h.oa.lt _ hq).2
    omega
/-- A function that is entered when it is called. -/
def Enters (F : FuncId) : Prop := ∀ (args : Array Value) (w : World), (callFunc F args).run Try.prog w = .ok (.enter F args) w
theorem enters_of {F : FuncId} {fn : Func} (hf : Try.prog.funcs[F]? = some fn) (hb : fn.body.isNone = false) (hn : (fn.name == "runtime.NumGoroutine") = false) : Enters F := by
  intro args w
  have hn' : ¬ fn.name = "runtime.NumGoroutine" := by simpa using hn
  have hb' : ¬ fn.body = none := by intro e; rw [e] at hb; cases hb
  simp [callFunc, go_sem, hf, hb', hn']
/-- Those that go, and those that stay. -/
def Parted (w : World) (p : Wt → Bool) (l : List Wt) (e : Ending) (w' : World) : Prop := ∃ A1 c1 A2 c2, e = .returned (.tuple #[.slice A1 (l.filter p).length c1, .slice A2 (l.filter fun x => !p x).length c2]) ∧ Two w w' (.slice A1 (l.filter p).length c1) (.slice A2 (l.filter fun x => !p x).length c2) (l.filter p) (l.filter fun x => !p x)
set_option maxHeartbeats 4000000 in
theorem part_any {w : World} {A : Option Addr} {n c : Nat} {l : List Wt} {F : FuncId} {caps : Array Value} {p : Wt → Bool} (h : Rd w w.heap.size 6 A n c (wts l)) (hl : l.length = n) (hn : n ≤ 1000) (hF : Tells w F caps p l) (hE : Enters F) :
    Calls Try.prog 50 #[.slice A n c, .func (.func F) #[] caps] w (Parted w p l) := by
  have HH := Lib.hid h
  have HF := Lib.hid hF
  have HL := Lib.hid hl
  have HE := Lib.hid hE
  clear h hF hl hE
  go_enter Try.func50, Try.ntmps50
  go_wp2_with (fail)
  go_loopw [4, 5, 10] (fun gr sr ir wr => ∃ i : Nat, i ≤ n ∧ ir = .int .i64 (i : Int) ∧ Hid (Two w wr gr sr ((l.take i).filter p) ((l.take i).filter fun x => !p x))) (fun _ _ ir _ => n - (intOf ir).toNat)
  case atStart => exact ⟨0, Nat.zero_le _, rfl, Lib.hid ⟨Below.refl _ _, World.ownsRow_nil _ _ _ _, World.ownsRow_nil _ _ _ _, fun q hq => by cases hq⟩⟩
  case round =>
    obtain ⟨i, hi, rfl, HT⟩ := hrel
    obtain ⟨A1, c1, rfl⟩ := ownsRow_form HT.out.oa
    obtain ⟨A2, c2, rfl⟩ := ownsRow_form HT.out.ob
    by_cases hlt : i < n
    · obtain ⟨x, hx⟩ : ∃ x, l[i]? = some x := ⟨_, List.getElem?_eq_getElem (by have := HL.out; omega)⟩
      obtain ⟨b, o, rfl, hbb, hcc⟩ := HH.out.2.2.2 (by omega)
      have hce := fun j u (hu : x.cells[j]? = some u) => (HT.out.bel.cell (p := ⟨b, o + (i * 6 + j), none⟩) hbb).trans (hcc _ _ (wts_get l i x hx j u hu))
      have hf1 := filter_take p l hx
      have hf2 := filter_take (fun x => !p x) l hx
      have HC := Lib.hid (fun W hb => HF.out W hb x (List.mem_of_getElem? hx))
      have hl1 : ((l.take i).filter p).length ≤ i := Nat.le_trans (List.length_filter_le _ _) (by rw [List.length_take]; omega)
      have hl2 : ((l.take i).filter fun x => !p x).length ≤ i := Nat.le_trans (List.length_filter_le _ _) (by rw [List.length_take]; omega)
      have HF1 := Lib.hid hf1
      have HF2 := Lib.hid hf2
      generalize (l.take i).filter p = la at *
      generalize ((l.take i).filter fun x => !p x) = lb at *
      generalize p x = T at *
      clear hx hf1 hf2 hcc
      obtain ⟨cl, rq, ix, fr, ct, rd⟩ := x
      unfold Wt.v Wt.cells at *
      dsimp only at *
      have k0 := hce 0 _ rfl
      have k1 := hce 1 _ rfl
      have k2 := hce 2 _ rfl
      have k3 := hce 3 _ rfl
      have k4 := hce 4 _ rfl
      have k5 := hce 5 _ rfl
      try dsimp only at k0 k1 k2 k3 k4 k5
      simp only [← Nat.add_assoc, Nat.add_zero] at k0 k1 k2 k3 k4 k5
      clear hce
      have hli : (la.length : Int) ≤ 1000 := by omega
      have hlj : (lb.length : Int) ≤ 1000 := by omega
      have hsz := HT.out.bel.size
      have HLT := Lib.hid hlt
      have hb0 : Below wr.heap.size wr (wr.alloc (.cells #[.int .u64 (cl : Int), .int .u64 (rq : Int), .int .u64 (ix : Int), .int .u32 (fr : Int), .int .u32 (ct : Int), .int .u64 (rd : Int)] 55)) := (Below.refl _ _).alloc (Nat.le_refl _) _
      have HT0 := Lib.hid (HT.out.below hb0)
      have r0 := heap_alloc_new wr (.cells #[.int .u64 (cl : Int), .int .u64 (rq : Int), .int .u64 (ix : Int), .int .u32 (fr : Int), .int .u32 (ct : Int), .int .u64 (rd : Int)] 55)
      have HR0 := Lib.hid r0
      clear hb0 r0
      cases T
      · go_wp2_with (first
          | (rw [HE.out, Oper.upon_enter]; refine (HC.out _ HT0.out.bel).mono ?_; rintro e w1 ⟨rfl, hb1⟩
             have HT1 := Lib.hid (HT0.out.below hb1)
             have r1 := (hb1.block _ (by simp)).trans HR0.out
             have q0 := cell_of_row w1 _ 0 _ _ _ r1
             have q1 := cell_of_row w1 _ 1 _ _ _ r1
             have q2 := cell_of_row w1 _ 2 _ _ _ r1
             have q3 := cell_of_row w1 _ 3 _ _ _ r1
             have q4 := cell_of_row w1 _ 4 _ _ _ r1
             have q5 := cell_of_row w1 _ 5 _ _ _ r1
             clear r1 hb1)
          | (at_builtin
             refine wpL_app rfl _ _ _ _ rfl E_wt rfl rfl (HT1.out.below ((Below.refl _ _).alloc (Nat.le_refl _) _)).ob (Src.lit' rfl (n := 1) (sz := 6) Try.underlying39 #[.int .u64 (cl : Int), .int .u64 (rq : Int), .int .u64 (ix : Int), .int .u32 (fr : Int), .int .u32 (ct : Int), .int .u64 (rd : Int)] rfl (by simp [Value.oneCell'])) (by unfold maxLen; omega) (by omega) (Nat.le_trans HT1.out.bel.size (by simp)) ?_
             intro v3 w3 hown3 hg3 hat3)
          | fail)
        go_roundw
        case rel =>
          refine ⟨i + 1, by have := HLT.out; omega, by go_num, Lib.hid ?_⟩
          rw [HF1.out, HF2.out]
          simp only [Bool.not_false, if_true, Bool.false_eq_true, if_false, List.append_nil]
          exact (HT1.out.below ((Below.refl _ _).alloc (Nat.le_refl _) _)).appB (x := ⟨cl, rq, ix, fr, ct, rd⟩) hown3 hg3 hat3
        case measure => have := HLT.out; simp [intOf]; omega
      · go_wp2_with (first
          | (rw [HE.out, Oper.upon_enter]; refine (HC.out _ HT0.out.bel).mono ?_; rintro e w1 ⟨rfl, hb1⟩
             have HT1 := Lib.hid (HT0.out.below hb1)
             have r1 := (hb1.block _ (by simp)).trans HR0.out
             have q0 := cell_of_row w1 _ 0 _ _ _ r1
             have q1 := cell_of_row w1 _ 1 _ _ _ r1
             have q2 := cell_of_row w1 _ 2 _ _ _ r1
             have q3 := cell_of_row w1 _ 3 _ _ _ r1
             have q4 := cell_of_row w1 _ 4 _ _ _ r1
             have q5 := cell_of_row w1 _ 5 _ _ _ r1
             clear r1 hb1)
          | (at_builtin
             refine wpL_app rfl _ _ _ _ rfl E_wt rfl rfl (HT1.out.below ((Below.refl _ _).alloc (Nat.le_refl _) _)).oa (Src.lit' rfl (n := 1) (sz := 6) Try.underlying39 #[.int .u64 (cl : Int), .int .u64 (rq : Int), .int .u64 (ix : Int), .int .u32 (fr : Int), .int .u32 (ct : Int), .int .u64 (rd : Int)] rfl (by simp [Value.oneCell'])) (by unfold maxLen; omega) (by omega) (Nat.le_trans HT1.out.bel.size (by simp)) ?_
             intro v3 w3 hown3 hg3 hat3)
          | fail)
        go_roundw
        case rel =>
          refine ⟨i + 1, by have := HLT.out; omega, by go_num, Lib.hid ?_⟩
          rw [HF1.out, HF2.out]
          simp only [Bool.not_true, if_true, Bool.false_eq_true, if_false, List.append_nil]
          exact (HT1.out.below ((Below.refl _ _).alloc (Nat.le_refl _) _)).appA (x := ⟨cl, rq, ix, fr, ct, rd⟩) hown3 hg3 hat3
        case measure => have := HLT.out; simp [intOf]; omega
    · obtain rfl : i = n := by omega
      have hT : l.take i = l := List.take_of_length_le (by have := HL.out; omega)
      rw [hT] at HT ⊢
      have d1 : decide ((i : Int) < (i : Int)) = false := by simp
      clear hlt hT
      go_wp2
      go_ret2
      exact ⟨A1, c1, A2, c2, rfl, HT.out⟩
end Go.Proofs.Ytkcpldkdnnhmmaa

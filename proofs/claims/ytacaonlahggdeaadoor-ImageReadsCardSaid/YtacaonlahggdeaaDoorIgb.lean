/- What the document's image is asked, and blocks of both; images as the document's. -/
import Derived.Test.YtacaonlahggdeaaDoorIga
namespace Go.Proofs.YtacaonlahggdeaaDoor
open Go.RowKit
set_option maxRecDepth 20000

set_option maxHeartbeats 2000000 in
theorem rigood_any (i : Im) (w : World) (hok : i.ok) (hlen : i.l.length ≤ 100000) :
    Calls Tryd.prog 11 #[imv i] w fun e w' => e = .returned (.bool (igB i)) ∧ Below w.heap.size w w' := by
  have hgd := fun W => rgood_any i.L i.B W hok.1 hok.2.1
  have hs : (str i.l).size = i.l.length := rfl
  have HG := Lib.hid hgd
  have hig : igB i = (gdB i.L i.B && szB i.l) := rfl
  have hsz : szB i.l = (decide (i.l.length % 8 = 0) && (decide (8 ≤ i.l.length) && decide (i.l.length ≤ 512))) := by unfold szB; simp
  clear hgd hok
  generalize gdB i.L i.B = gd at *
  generalize szB i.l = sz at *
  generalize i.l.length = len at *
  cases gd
  · have hres : igB i = false := by rw [hig]; rfl
    rw [hres]
    clear hsz hres hig
    go_enter Tryd.func11, Tryd.ntmps11
    go_wp2_with (first
      | (refine wpL_rbox (cs := icells i) rfl (.tmp 0) rfl rfl ?_; intro W0 b hN; obtain ⟨hb, hr, hl1, hz⟩ := hN; have c0 := icell0 hr.out; have c1 := icell1 hr.out; have c2 := icell2 hr.out)
      | (go_at_call 30; refine (HG.out _).mono ?_; rintro e W ⟨rfl, hb1⟩; have k2 := icell2 (row_below hr.out hb1); have HB := Lib.hid (hl1.trans (hb1.mono hl1.size)); clear c0 c1 c2 hr hl1 hb1 hz hb)
      | fail)
    go_ret
    exact ⟨rfl, HB.out⟩
  · by_cases h1 : len % 8 = 0
    · have q1 : ((len : Int) % 8 == 0) = true := by rw [beq_iff_eq]; omega
      by_cases h2 : 8 ≤ len
      · have q2 : decide ((8 : Int) ≤ (len : Int)) = true := by simp; omega
        by_cases h3 : len ≤ 512
        · have q3 : decide ((len : Int) ≤ 512) = true := by simp; omega
          have hres : igB i = true := by rw [hig, hsz]; simp [h1, h2, h3]
          rw [hres]
          clear hsz hres hig h1
          go_enter Tryd.func11, Tryd.ntmps11
          go_wp2_with (first
            | (refine wpL_rbox (cs := icells i) rfl (.tmp 0) rfl rfl ?_; intro W0 b hN; obtain ⟨hb, hr, hl1, hz⟩ := hN; have c0 := icell0 hr.out; have c1 := icell1 hr.out; have c2 := icell2 hr.out)
            | (go_at_call 30; refine (HG.out _).mono ?_; rintro e W ⟨rfl, hb1⟩; have k2 := icell2 (row_below hr.out hb1); have HB := Lib.hid (hl1.trans (hb1.mono hl1.size)); clear c0 c1 c2 hr hl1 hb1 hz hb)
            | fail)
          go_ret
          exact ⟨rfl, HB.out⟩
        · have q3 : decide ((len : Int) ≤ 512) = false := by simp; omega
          have hres : igB i = false := by rw [hig, hsz]; simp [h3]
          rw [hres]
          clear hsz hres hig h1
          go_enter Tryd.func11, Tryd.ntmps11
          go_wp2_with (first
            | (refine wpL_rbox (cs := icells i) rfl (.tmp 0) rfl rfl ?_; intro W0 b hN; obtain ⟨hb, hr, hl1, hz⟩ := hN; have c0 := icell0 hr.out; have c1 := icell1 hr.out; have c2 := icell2 hr.out)
            | (go_at_call 30; refine (HG.out _).mono ?_; rintro e W ⟨rfl, hb1⟩; have k2 := icell2 (row_below hr.out hb1); have HB := Lib.hid (hl1.trans (hb1.mono hl1.size)); clear c0 c1 c2 hr hl1 hb1 hz hb)
            | fail)
          go_ret
          exact ⟨rfl, HB.out⟩
      · have q2 : decide ((8 : Int) ≤ (len : Int)) = false := by simp; omega
        have hres : igB i = false := by rw [hig, hsz]; simp [h2]
        rw [hres]
        clear hsz hres hig h1
        go_enter Tryd.func11, Tryd.ntmps11
        go_wp2_with (first
          | (refine wpL_rbox (cs := icells i) rfl (.tmp 0) rfl rfl ?_; intro W0 b hN; obtain ⟨hb, hr, hl1, hz⟩ := hN; have c0 := icell0 hr.out; have c1 := icell1 hr.out; have c2 := icell2 hr.out)
          | (go_at_call 30; refine (HG.out _).mono ?_; rintro e W ⟨rfl, hb1⟩; have k2 := icell2 (row_below hr.out hb1); have HB := Lib.hid (hl1.trans (hb1.mono hl1.size)); clear c0 c1 c2 hr hl1 hb1 hz hb)
          | fail)
        go_ret
        exact ⟨rfl, HB.out⟩
    · have q1 : ((len : Int) % 8 == 0) = false := by rw [beq_eq_false_iff_ne]; omega
      have hres : igB i = false := by rw [hig, hsz]; simp [h1]
      rw [hres]
      clear hsz hres hig h1
      go_enter Tryd.func11, Tryd.ntmps11
      go_wp2_with (first
        | (refine wpL_rbox (cs := icells i) rfl (.tmp 0) rfl rfl ?_; intro W0 b hN; obtain ⟨hb, hr, hl1, hz⟩ := hN; have c0 := icell0 hr.out; have c1 := icell1 hr.out; have c2 := icell2 hr.out)
        | (go_at_call 30; refine (HG.out _).mono ?_; rintro e W ⟨rfl, hb1⟩; have k2 := icell2 (row_below hr.out hb1); have HB := Lib.hid (hl1.trans (hb1.mono hl1.size)); clear c0 c1 c2 hr hl1 hb1 hz hb)
        | fail)
      go_ret
      exact ⟨rfl, HB.out⟩

/-! ### Blocks -/
def blk (i : Im) (n : Nat) : List UInt8 := if n < i.l.length / 8 then (i.l.drop (8 * n)).take 8 else []
theorem str_cut (l : List UInt8) (a b : Nat) (_ : b ≤ (str l).size) : (str l).extract a b = str ((l.drop a).take (b - a)) := str_extract l a b

set_option maxHeartbeats 2000000 in
theorem riblock_any (i : Im) (n : Nat) (w : World) (hn : n < 4294967296) (hlen : i.l.length ≤ 100000) :
    Calls Tryd.prog 13 #[imv i, .int .u32 (n : Int)] w fun e w' => e = .returned (.string (str (blk i n))) ∧ Below w.heap.size w w' := by
  have hs : (str i.l).size = i.l.length := rfl
  by_cases h : n < i.l.length / 8
  · have hf : (str i.l).extract (8 * n) (8 * n + 8) = str (blk i n) := by
      rw [str_extract]
      unfold blk
      rw [if_pos h]
      congr 3
      omega
    have HF := Lib.hid hf
    clear hf
    have q1 : decide (((i.l.length / 8 : Nat) : Int) ≤ (n : Int)) = false := by simp; omega
    have q2 : decide ((i.l.length : Int) / 8 ≤ (n : Int)) = false := by simp; omega
    go_enter Tryd.func13, Tryd.ntmps13
    go_wp2_with (first
      | (refine wpL_rbox (cs := icells i) rfl (.tmp 0) rfl rfl ?_; intro W0 b hN; obtain ⟨hb, hr, hl1, hz⟩ := hN; have c2 := icell2 hr.out)
      | fail)
    go_ret
    exact ⟨by rw [← HF.out]; rfl, hl1⟩
  · have hf : blk i n = [] := by unfold blk; rw [if_neg h]
    rw [hf]
    clear hf
    have q1 : decide (((i.l.length / 8 : Nat) : Int) ≤ (n : Int)) = true := by simp; omega
    have q2 : decide ((i.l.length : Int) / 8 ≤ (n : Int)) = true := by simp; omega
    go_enter Tryd.func13, Tryd.ntmps13
    go_wp2_with (first
      | (refine wpL_rbox (cs := icells i) rfl (.tmp 0) rfl rfl ?_; intro W0 b hN; obtain ⟨hb, hr, hl1, hz⟩ := hN; have c2 := icell2 hr.out)
      | fail)
    go_ret
    exact ⟨rfl, hl1⟩

end Go.Proofs.YtacaonlahggdeaaDoor

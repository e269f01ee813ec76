/- An image is made a text, the document's own. -/
import Derived.Test.YtacaonlahggdeaaDoorIgp
import Derived.Test.YtacaonlahggdeaaDoorTbytesr
namespace Go.Proofs.YtacaonlahggdeaaDoor
open Go.RowKit
set_option maxRecDepth 20000

set_option maxHeartbeats 4000000 in
theorem rimake_any (i : Im) (w : World) (hok : i.ok) (hlen : i.l.length ≤ 100000) :
    Calls Tryd.prog 9 #[imv i] w fun e w' => e = .returned (.tuple #[.string (str (imk i).1), .int .i64 (imk i).2]) ∧ Below w.heap.size w w' := by
  have hgood := fun W => rigood_any i W hok hlen
  have hT8 := Lib.hid hok.2.2.1
  have htb := fun W => rtbytes_any i.T W hok.2.2
  have HNS : Hid (∀ x ∈ [i.L, i.B], x < 18446744073709551616) := Lib.hid (by
    intro x hx
    simp only [List.mem_cons, List.not_mem_nil, or_false] at hx
    rcases hx with rfl | rfl
    · exact hok.1
    · exact hok.2.1)
  have HG := Lib.hid hgood
  have HTB := Lib.hid htb
  clear hgood htb
  by_cases h : igB i = true
  · have hsz := igB_sz h
    have hmk : imk i = (sealOf (body15 i), 0) := by unfold imk; rw [if_pos h]
    rw [hmk]
    rw [h] at HG
    dsimp only
    have hbl := body15_len i hT8.out
    have HBODY : Hid (le 8 i.L ++ le 8 i.B ++ le 2 i.l.length ++ i.l ++ encT i.T = body15 i) := Lib.hid rfl
    have hput : allOf [] 8 [i.L, i.B] = le 8 i.L ++ le 8 i.B := by simp [allOf, puts]
    have HPUT := Lib.hid hput
    clear h hmk hput hok
    go_enter Tryd.func9, Tryd.ntmps9
    go_wp2_with (first
      | (refine wpL_rbox (cs := icells i) rfl (.tmp 0) rfl rfl ?_; intro W0 b hN; obtain ⟨hb, hr, hl1, hz⟩ := hN)
      | (refine imB.wpLoad rfl (.tmp 1) rfl rfl hr.out hT8.out ?_)
      | (go_at_call 11; refine (HG.out _).mono ?_; rintro e W ⟨rfl, hb1⟩; have HR := Lib.hid (row_below hr.out hb1); have HB := Lib.hid (hl1.trans (hb1.mono hl1.size)); have hbW : b < W.heap.size := by have := hz.out; have := hb1.size; omega
         have c0 := icell0 HR.out; have c1 := icell1 HR.out)
      | (go_at_call 23; fail)
      | fail)
    clear hr hl1 hz hb1 c0 c1
    have hlit := Rd.lit W #[.int .u64 (i.L : Int), .int .u64 (i.B : Int)] 22 (n := 2) (fr := (0, 0)) (B := W.heap.size + 1) rfl (by unfold maxLen; omega) (by omega)
    refine (rall_any none _ 0 0 2 2 [] [i.L, i.B] 8 _ Rd.nil_ (hlit.more (by simp)) (by omega) HNS).mono ?_
    rintro e v1 ⟨vs1, m1, rfl, hown1, bv1⟩
    rw [HPUT.out] at hown1
    obtain ⟨A1, c1, rfl⟩ := ownsRow_form hown1
    have hm1 : m1 = 16 := by have := hown1.1; simp [u8s_len, le_len] at this; omega
    subst hm1
    have R1 := Lib.hid (ownsRow_rd hown1)
    have bw1 : Below W.heap.size W v1 := unal bv1
    have HB1 := Lib.hid (HB.out.trans (bw1.mono HB.out.size))
    have HR1 := Lib.hid (below_row bw1 HR.out hbW)
    have c2 := icell2 HR1.out
    clear hlit hown1 bv1 bw1 HB HR
    go_wp2_with (fail)
    refine (rtext_any A1 16 c1 (le 8 i.L ++ le 8 i.B) i.l _ R1.out (by omega) (by omega)).mono ?_
    rintro e v2 ⟨vs2, rfl, hown2, bv2⟩
    obtain ⟨A2, c2', rfl⟩ := ownsRow_form hown2
    have O2 := Lib.hid hown2
    have hb1v : b < v1.heap.size := (Array.getElem?_eq_some_iff.1 HR1.out).1
    have HR2 := Lib.hid (below_row bv2 HR1.out hb1v)
    have HB2 := Lib.hid (HB1.out.trans (bv2.mono HB1.out.size))
    have hv1w : w.heap.size ≤ v1.heap.size := HB1.out.size
    have hle2 : v1.heap.size ≤ v2.heap.size := bv2.size
    clear hown2 bv2 R1 c2 HR1 HB1
    go_wp2_with (first
      | (refine imB.wpLoadT rfl (.tmp 24) rfl rfl HR2.out hT8.out ?_)
      | fail)
    refine (HTB.out _).mono ?_
    rintro e v3 ⟨vs3, rfl, hown3, bv3⟩
    obtain ⟨A3, c3, rfl⟩ := ownsRow_form hown3
    have O3 := Lib.hid (own_below O2.out bv3)
    have R3 := Lib.hid (ownsRow_rd hown3)
    have HB3 := Lib.hid (HB2.out.trans (bv3.mono HB2.out.size))
    have hle3 : v1.heap.size ≤ v3.heap.size := Nat.le_trans hle2 bv3.size
    clear hown3 bv3 O2 HR2
    go_wp2_with (first
      | (refine wpL_app rfl (.tmp 23) (.tmp 26) _ _ rfl E_u8 rfl rfl O3.out (R3.out.src Tryd.underlying62 (u8s_one _)) (by unfold maxLen; omega) (by omega) hle3 ?_; intro v4 w4 hown4 hg4 hat4)
      | fail)
    obtain ⟨A4, c4, rfl⟩ := ownsRow_form hown4
    have hb4 : Below w.heap.size w w4 := HB3.out.grown hg4 HB3.out.size (fun k e => Nat.le_trans hv1w (O3.out.lt k e).1)
    rw [← u8s_app, HBODY.out] at hown4
    refine (rseal_any A4 _ c4 (body15 i) _ (ownsRow_rd hown4) (by omega)).mono ?_
    rintro e w5 ⟨v5, rfl, hown5, hb5⟩
    obtain ⟨A5, c5, rfl⟩ := ownsRow_form hown5
    have R5 := ownsRow_rd hown5
    have HF := Lib.hid (hb4.trans (hb5.mono hb4.size))
    clear hown5 hb5 hb4 hown4 hg4 hat4
    go_wp2_with (first
      | (refine wpL_str rfl (.tmp 28) _ _ rfl Tryd.underlying62 Tryd.underlying5 Tryd.underlying9 rfl R5 ?_)
      | fail)
    go_ret2
    exact ⟨rfl, HF.out⟩
  · have hmk := make_no h
    rw [hmk]
    have h' : igB i = false := by simpa using h
    rw [h'] at HG
    dsimp only
    clear h h' hmk hok HTB
    go_enter Tryd.func9, Tryd.ntmps9
    go_wp2_with (first
      | (refine wpL_rbox (cs := icells i) rfl (.tmp 0) rfl rfl ?_; intro W0 b hN; obtain ⟨hb, hr, hl1, hz⟩ := hN)
      | (refine imB.wpLoad rfl (.tmp 1) rfl rfl hr.out hT8.out ?_)
      | (go_at_call 11; refine (HG.out _).mono ?_; rintro e W ⟨rfl, hb1⟩; have HB := Lib.hid (hl1.trans (hb1.mono hl1.size)))
      | fail)
    go_ret2
    exact ⟨rfl, HB.out⟩

end Go.Proofs.YtacaonlahggdeaaDoor

/- The chapter's example. -/
import Derived.Test.YtkcpldkdnnhmmaaDn
namespace Go.Proofs.Ytkcpldkdnnhmmaa
open Go.RowKit
set_option maxRecDepth 20000

def ex1 : Dk := (newDk 3 0).read 1 5 0 2
def ex2 : Dk := ex1.hearN 2 1
theorem ex_r : (newDk 3 0).readN 1 5 = 1 ∧ (newDk 3 0).readE 1 5 = 0 := ⟨rfl, rfl⟩
theorem ex_s : ex2.sure = 1 := by decide +kernel
theorem ex_g : ex2.l.filter (Wt.upto ex2.sure) = [⟨1, 5, 0, 0, 2, 1⟩] := by rw [ex_s]; rfl
theorem ex_w : (ex2.wait (ex2.l.filter fun x => !Wt.upto ex2.sure x)).l = [] := by rw [ex_s]; rfl
set_option maxHeartbeats 1000000 in
theorem lives25 (w : World) : Calls Try.prog 7 #[] w fun e w' => e = .returned (.bool true) ∧ Below w.heap.size w w' := by
  have hN : ∀ W, Calls Try.prog 8 #[.int .i64 3, .int .i64 0] W (NewOk W 3 0) := fun W => dnew_any 3 0 W (by decide) (by decide) (by decide)
  have hR : ∀ (W : World) B g v (_ : Dg W B g v (newDk 3 0)) (_ : B ≤ W.heap.size), Calls Try.prog 18 #[.pointer (some ⟨g, 0, none⟩), .int .u64 1, .int .u64 5, .agg #[.int .u32 0, .int .u32 2]] W fun e w' => e = .returned (.tuple #[.int .u64 1, .int .i64 0]) ∧ Mv W B g v ex1 w' := fun W B g v h hB => read_any h hB 1 5 0 2 (by decide)
  have hH : ∀ (W : World) B g v (_ : Dg W B g v ex1) (_ : B ≤ W.heap.size), Calls Try.prog 20 #[.pointer (some ⟨g, 0, none⟩), .int .i64 2, .int .u64 1] W (Freed W B g v ex2 (Wt.upto ex2.sure)) := fun W B g v h hB => heard_any h hB 2 1
  have HN := Lib.hid hN
  have HR := Lib.hid hR
  have HHd := Lib.hid hH
  clear hN hR hH
  go_enter Try.func7, Try.ntmps7
  go_wp2_with (first
    | (go_at_call 8; (with_reducible refine (HN.out _).mono ?_); rintro e w1 ⟨rfl, h1, hb1⟩
       have H1 := Lib.hid h1
       have HB1 := Lib.hid hb1
       clear h1 hb1)
    | (go_at_call 18; refine (HR.out _ _ _ _ H1.out HB1.out.size).mono ?_; rintro e w2 ⟨rfl, v2, h2, k2, _⟩
       have H2 := Lib.hid h2
       have HB2 := Lib.hid (HB1.out.trans (k2.below HB1.out.size (fun i hi => (H1.out.foot hi).1)))
       clear h2 k2)
    | (go_at_call 20; refine (HHd.out _ _ _ _ H2.out HB2.out.size).mono ?_; rintro e w3 ⟨A, c, rfl, ho, v3, h3, k3, _⟩
       rw [ex_g] at ho ⊢
       have HL3 := dlen_any h3
       rw [ex_w] at HL3
       have HL := Lib.hid HL3
       have HB3 := Lib.hid (HB2.out.trans (k3.below HB2.out.size (fun i hi => (H2.out.foot hi).1)))
       have hrd := ownsRow_rd ho
       obtain ⟨b, o, rfl, hbb, hcc⟩ := hrd.2.2.2 (by decide)
       have g1 : w3.cell? ⟨b, o + 1, none⟩ = some (.int .u64 5) := hcc 1 _ rfl
       clear h3 k3 hcc hrd ho HL3)
    | (go_at_call 13; refine HL.out.mono ?_; rintro e w4 ⟨rfl, rfl⟩)
    | fail)
  go_ret
  exact ⟨rfl, HB3.out⟩
end Go.Proofs.Ytkcpldkdnnhmmaa

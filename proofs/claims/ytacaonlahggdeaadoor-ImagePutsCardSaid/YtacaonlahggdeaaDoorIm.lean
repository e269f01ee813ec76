/- Images as data: what may be, their bytes, both ways. -/
import Derived.Test.YtacaonlahggdeaaDoorTback
import Derived.Test.YtacaonlahggdeaaDoorLivesb
import Derived.Test.YtacaonlahggdeaaDoorRefc
import Derived.Test.YtacaonlahggdeaaDoorMarks2
namespace Go.Proofs.YtacaonlahggdeaaDoor
open Go.RowKit
set_option maxRecDepth 20000

/-- An image: its marks, its blocks, its requests. -/
structure Im where
  L : Nat
  B : Nat
  l : List UInt8
  T : List Cl
  deriving DecidableEq
def Im.ok (i : Im) : Prop := i.L < 18446744073709551616 ∧ i.B < 18446744073709551616 ∧ Tok i.T
def icells (i : Im) : List Value := .int .u64 (i.L : Int) :: .int .u64 (i.B : Int) :: .string (str i.l) :: tcells i.T
def imv (i : Im) : Value := .agg (icells i).toArray
def I0 : Im := ⟨0, 0, [], T0⟩
theorem i0_ok : I0.ok := ⟨by decide, by decide, t0_ok⟩
theorem icells_len (i : Im) : (icells i).length = 3 + 2 * i.T.length := by
  simp only [icells, List.length_cons, tcells_len]; omega
theorem icells_19 {i : Im} (h : i.T.length = 8) : (icells i).length = 19 := by rw [icells_len, h]
theorem icells_one (i : Im) : ∀ u ∈ icells i, u.oneCell' = true := by
  intro u hu
  simp only [icells, List.mem_cons] at hu
  rcases hu with rfl | rfl | rfl | hu
  · rfl
  · rfl
  · rfl
  · exact tcells_one _ u hu
def szB (l : List UInt8) : Bool := decide (l.length % 8 = 0 ∧ 8 ≤ l.length ∧ l.length ≤ 512)
def igB (i : Im) : Bool := gdB i.L i.B && szB i.l
def body15 (i : Im) : List UInt8 := (((le 8 i.L ++ le 8 i.B) ++ le 2 i.l.length) ++ i.l) ++ encT i.T
def imk (i : Im) : List UInt8 × Int := if igB i = true then (sealOf (body15 i), 0) else ([], 2)
def irdS (s : St) : Im × St :=
  (⟨(s.num 8).1, ((s.num 8).2.num 8).1, ((s.num 8).2.num 8).2.text.1, rdT ((s.num 8).2.num 8).2.text.2⟩, (rdN 8 ((s.num 8).2.num 8).2.text.2).2)
def irdB (b : List UInt8) : Im × Int := if (irdS ⟨b, false⟩).2.end_ = 0 ∧ igB (irdS ⟨b, false⟩).1 = true then ((irdS ⟨b, false⟩).1, 0) else (I0, 10)
def ird (s : List UInt8) : Im × Int := if (openOf s).2 = 0 then irdB (openOf s).1 else (I0, (openOf s).2)

theorem irdS_ok (s : St) : (irdS s).1.ok := by
  have h1 := num_lt s 8 (by decide)
  have h2 := num_lt (s.num 8).2 8 (by decide)
  have h3 := rdT_ok ((s.num 8).2.num 8).2.text.2
  unfold Im.ok irdS
  dsimp only
  exact ⟨h1, h2, h3⟩
theorem irdB_ok (b : List UInt8) : (irdB b).1.ok := by
  have h1 := irdS_ok ⟨b, false⟩
  have h2 := i0_ok
  unfold irdB
  generalize irdS ⟨b, false⟩ = r at *
  by_cases h : r.2.end_ = 0 ∧ igB r.1 = true
  · rw [if_pos h]; exact h1
  · rw [if_neg h]; exact h2
theorem ird_ok (s : List UInt8) : (ird s).1.ok := by
  have h1 := irdB_ok (openOf s).1
  have h2 := i0_ok
  unfold ird
  generalize irdB (openOf s).1 = r at *
  by_cases h : (openOf s).2 = 0
  · rw [if_pos h]; exact h1
  · rw [if_neg h]; exact h2

/-! ### What is made is read -/
theorem end0 (s : St) : s.end_ = 0 ↔ s.bad = false ∧ s.l = [] := by
  obtain ⟨l, b⟩ := s
  unfold St.end_
  cases b <;> cases l <;> simp
theorem szB_iff (l : List UInt8) : szB l = true ↔ l.length % 8 = 0 ∧ 8 ≤ l.length ∧ l.length ≤ 512 := by unfold szB; simp
theorem igB_sz {i : Im} (h : igB i = true) : i.l.length % 8 = 0 ∧ 8 ≤ i.l.length ∧ i.l.length ≤ 512 := by
  unfold igB at h
  rw [Bool.and_eq_true] at h
  exact (szB_iff _).1 h.2
theorem text_back (l k : List UInt8) (h : l.length ≤ 16384) : St.text ⟨le 2 l.length ++ (l ++ k), false⟩ = (l, ⟨k, false⟩) := by
  have h1 := num_back 2 l.length (l ++ k) (by decide) (by decide) (by omega)
  rw [show ((2 : Nat) : Int) = 2 from rfl] at h1
  unfold St.text
  rw [h1]
  dsimp only
  rw [if_neg (by omega)]
  unfold St.next
  dsimp only
  rw [if_pos ⟨Int.natCast_nonneg _, by rw [List.length_append]; omega⟩, Int.toNat_natCast, List.take_left, List.drop_left]
theorem irdS_body (i : Im) (hok : i.ok) (hl : i.l.length ≤ 16384) : irdS ⟨body15 i, false⟩ = (i, ⟨[], false⟩) := by
  obtain ⟨h1, h2, h3⟩ := hok
  have e : body15 i = le 8 i.L ++ (le 8 i.B ++ (le 2 i.l.length ++ (i.l ++ encT i.T))) := by simp [body15]
  have n1 := num_back 8 i.L (le 8 i.B ++ (le 2 i.l.length ++ (i.l ++ encT i.T))) (by decide) (by decide) h1
  have n2 := num_back 8 i.B (le 2 i.l.length ++ (i.l ++ encT i.T)) (by decide) (by decide) h2
  rw [show ((8 : Nat) : Int) = 8 from rfl] at n1 n2
  have n3 := text_back i.l (encT i.T) hl
  have n4 := rdT_back i.T h3 []
  have n5 := rdN_back i.T h3.2 [] 8 (by rw [h3.1]; exact Nat.le_refl _)
  rw [List.append_nil] at n4 n5
  have e5 : encT (i.T.drop 8) = [] := by rw [List.drop_of_length_le (by rw [h3.1]; exact Nat.le_refl _)]; rfl
  rw [e5, List.nil_append] at n5
  unfold irdS
  rw [e, n1]
  dsimp only
  rw [n2]
  dsimp only
  rw [n3]
  dsimp only
  rw [n4, n5]
theorem read_make {i : Im} (hok : i.ok) (h : igB i = true) : (imk i).2 = 0 ∧ ird (imk i).1 = (i, 0) := by
  have hs := igB_sz h
  have hb := irdS_body i hok (by omega)
  have e : imk i = (sealOf (body15 i), 0) := by unfold imk; rw [if_pos h]
  rw [e]
  refine ⟨rfl, ?_⟩
  unfold ird
  rw [open_seal]
  dsimp only
  rw [if_pos rfl]
  unfold irdB
  rw [hb]
  dsimp only
  rw [if_pos ⟨(end0 _).2 ⟨rfl, rfl⟩, h⟩]
theorem make_no {i : Im} (h : ¬ igB i = true) : imk i = ([], 2) := by unfold imk; rw [if_neg h]

/-! ### What is read was made so -/
theorem next_good {s : St} {n : Int} (h : (s.next n).2.bad = false) : s.bad = false ∧ 0 ≤ n ∧ ((s.next n).1.length : Int) = n ∧ s.l = (s.next n).1 ++ (s.next n).2.l := by
  unfold St.next at h ⊢
  by_cases hc : 0 ≤ n ∧ n ≤ s.l.length
  · rw [if_pos hc] at h ⊢
    exact ⟨h, hc.1, by rw [List.length_take]; omega, (List.take_append_drop _ _).symm⟩
  · rw [if_neg hc] at h
    cases h
theorem num_good {s : St} {k : Nat} (h1 : 1 ≤ k) (h8 : k ≤ 8) (h : (s.num k).2.bad = false) : s.bad = false ∧ s.l = le k (s.num k).1 ++ (s.num k).2.l := by
  have e : s.num k = (unle (s.next k).1, (s.next k).2) := by unfold St.num; rw [if_pos ⟨by omega, by omega⟩]
  rw [e] at h ⊢
  dsimp only at h ⊢
  obtain ⟨a, _, b, c⟩ := next_good h
  refine ⟨a, ?_⟩
  have hu := le_unle (s.next k).1
  rw [show (s.next k).1.length = k by omega] at hu
  rw [hu]
  exact c
theorem text_good {s : St} (h : s.text.2.bad = false) : s.bad = false ∧ s.l = le 2 s.text.1.length ++ (s.text.1 ++ s.text.2.l) := by
  have hn := num_good (s := s) (k := 2) (by decide) (by decide)
  rw [show ((2 : Nat) : Int) = 2 from rfl] at hn
  unfold St.text at h ⊢
  by_cases hc : 16384 < (s.num 2).1
  · rw [if_pos hc] at h; cases h
  · rw [if_neg hc] at h ⊢
    obtain ⟨a, _, b, c⟩ := next_good h
    obtain ⟨d, e⟩ := hn a
    refine ⟨d, ?_⟩
    rw [show ((s.num 2).2.next (s.num 2).1).1.length = (s.num 2).1 by omega, ← c]
    exact e
theorem rd1_good {s : St} (h : (rd1 s).2.bad = false) : s.bad = false ∧ s.l = (le 8 (rd1 s).1.1 ++ le 2 (rd1 s).1.2) ++ (rd1 s).2.l := by
  have h1 := num_good (s := s) (k := 8) (by decide) (by decide)
  have h2 := num_good (s := (s.num 8).2) (k := 2) (by decide) (by decide)
  rw [show ((8 : Nat) : Int) = 8 from rfl] at h1
  rw [show ((2 : Nat) : Int) = 2 from rfl] at h2
  unfold rd1 at h ⊢
  dsimp only at h ⊢
  obtain ⟨a2, b2⟩ := h2 h
  obtain ⟨a1, b1⟩ := h1 a2
  refine ⟨a1, ?_⟩
  have hlt : ((s.num 8).2.num 2).1 < 65536 := by
    have e : (s.num 8).2.num 2 = (unle ((s.num 8).2.next 2).1, ((s.num 8).2.next 2).2) := by unfold St.num; rw [if_pos ⟨by omega, by omega⟩]
    have hl := St.next_len (s.num 8).2 2
    have hu := unle_lt ((s.num 8).2.next 2).1
    rw [e]
    dsimp only
    rcases hl with hl | hl
    · refine Nat.lt_of_lt_of_le hu (Nat.pow_le_pow_right (by decide) (by omega : _ ≤ 2))
    · rw [hl]; decide
  rw [Nat.mod_eq_of_lt hlt, List.append_assoc, ← b2]
  exact b1
theorem rdN_good (s : St) : ∀ k, (rdN k s).2.bad = false → s.bad = false ∧ s.l = encT (rdN k s).1 ++ (rdN k s).2.l := by
  intro k
  induction k with
  | zero => intro h; exact ⟨h, by simp [rdN, encT]⟩
  | succ k ih =>
    intro h
    obtain ⟨a, b⟩ := rd1_good (s := (rdN k s).2) h
    obtain ⟨c, d⟩ := ih a
    refine ⟨c, ?_⟩
    have e : encT ((rdN k s).1 ++ [(rd1 (rdN k s).2).1]) = encT (rdN k s).1 ++ (le 8 (rd1 (rdN k s).2).1.1 ++ le 2 (rd1 (rdN k s).2).1.2) := by
      unfold encT
      rw [List.flatMap_append]
      simp
    show s.l = encT ((rdN k s).1 ++ [(rd1 (rdN k s).2).1]) ++ (rd1 (rdN k s).2).2.l
    rw [e, List.append_assoc, ← b]
    exact d
theorem irdS_good {b : List UInt8} (h : (irdS ⟨b, false⟩).2.end_ = 0) : body15 (irdS ⟨b, false⟩).1 = b := by
  have g1 := num_good (s := ⟨b, false⟩) (k := 8) (by decide) (by decide)
  have g2 := num_good (s := (St.num ⟨b, false⟩ 8).2) (k := 8) (by decide) (by decide)
  have g3 := text_good (s := ((St.num ⟨b, false⟩ 8).2.num 8).2)
  have g4 := rdN_good ((St.num ⟨b, false⟩ 8).2.num 8).2.text.2 8
  rw [show ((8 : Nat) : Int) = 8 from rfl] at g1 g2
  unfold irdS at h ⊢
  unfold rdT
  generalize hA : St.num ⟨b, false⟩ 8 = ra at *
  obtain ⟨L, s1⟩ := ra
  dsimp only at *
  generalize hB : s1.num 8 = rb at *
  obtain ⟨B, s2⟩ := rb
  dsimp only at *
  generalize hC : s2.text = rc at *
  obtain ⟨t, s3⟩ := rc
  dsimp only at *
  generalize hE : rdN 8 s3 = rd at *
  obtain ⟨T2, s4⟩ := rd
  dsimp only at *
  obtain ⟨hb, hl⟩ := (end0 s4).1 h
  rw [hb] at g4
  rw [hl, List.append_nil] at g4
  obtain ⟨b4, e4⟩ := g4 rfl
  obtain ⟨b3, e3⟩ := g3 b4
  obtain ⟨b2, e2⟩ := g2 b3
  obtain ⟨b1, e1⟩ := g1 b2
  unfold body15
  dsimp only
  rw [hb, e1, e2, e3, e4, if_neg (by decide)]
  simp only [List.append_assoc]
theorem open_good {s : List UInt8} (h : (openOf s).2 = 0) : sealOf (openOf s).1 = s := by
  unfold openOf at h ⊢
  by_cases h4 : s.length < 4
  · rw [if_pos h4] at h; cases h
  · rw [if_neg h4] at h ⊢
    by_cases hc : unle (s.drop (s.length - 4)) = more 0 (s.take (s.length - 4))
    · rw [if_pos hc]
      exact (sealed_iff s (by omega)).2 hc
    · rw [if_neg hc] at h; cases h
theorem make_read {s : List UInt8} (h : (ird s).2 = 0) : imk (ird s).1 = (s, 0) := by
  unfold ird at h ⊢
  by_cases ho : (openOf s).2 = 0
  · rw [if_pos ho] at h ⊢
    unfold irdB at h ⊢
    by_cases hc : (irdS ⟨(openOf s).1, false⟩).2.end_ = 0 ∧ igB (irdS ⟨(openOf s).1, false⟩).1 = true
    · rw [if_pos hc]
      dsimp only
      unfold imk
      rw [if_pos hc.2, irdS_good hc.1, open_good ho]
    · rw [if_neg hc] at h; cases h
  · rw [if_neg ho] at h
    exact absurd h ho
theorem openOf_len (s : List UInt8) : (openOf s).1.length ≤ s.length := by
  unfold openOf
  split
  · exact Nat.zero_le _
  · split
    · rw [List.length_take]; exact Nat.min_le_right _ _
    · exact Nat.zero_le _
theorem body15_len (i : Im) (h : i.T.length = 8) : (body15 i).length = 98 + i.l.length := by
  simp only [body15, List.length_append, le_len, encT_len, h]
  omega
theorem sealOf_len (l : List UInt8) : (sealOf l).length = l.length + 4 := by unfold sealOf; rw [List.length_append, le_len]

end Go.Proofs.YtacaonlahggdeaaDoor

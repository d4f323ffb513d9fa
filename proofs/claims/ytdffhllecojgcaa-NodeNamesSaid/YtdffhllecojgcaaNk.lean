/- Layer 6, the program's: a node is read. -/
import Derived.Test.YtdffhllecojgcaaNi
import Derived.Test.YtdffhllecojgcaaNj
namespace Go.Proofs.Ytdffhllecojgcaa
open Go.Am
open Go.Proofs.Ytdffhllecojgcaa.T
set_option linter.unusedVariables false
set_option maxRecDepth 20000

def rdF (s : St) : Bool × St := tk false (fAt s.1).1 (fAt s.1).2 s
def rdC (most : Int) (s : St) : Int × St := tk (0 : Int) ((cAt s.1 most).1 : Int) (cAt s.1 most).2 s
def rdT (most : Int) (s : St) : List UInt8 × St := tk ([] : List UInt8) (sAt s.1 most).1 (sAt s.1 most).2 s
def rKey (x : Nd × St) : Nd × St := ({ x.1 with ks := x.1.ks ++ [(rdT 32 x.2).1] }, (rdT 32 x.2).2)
def rBeh (x : Nd × St) : Nd × St := if x.1.leaf then ({ x.1 with vs := x.1.vs ++ [(rdT 64 x.2).1] }, (rdT 64 x.2).2) else ({ x.1 with kids := x.1.kids ++ [(rdC 32768 x.2).1] }, (rdC 32768 x.2).2)
def rLoop : Nat → Nd × St → Nd × St
  | 0, x => x
  | k + 1, x => rLoop k (rBeh (rKey x))
def rHead (bs : List UInt8) : Bool × St := rdF (bs, false)
def rCnt (bs : List UInt8) : Int × St := rdC 256 (rHead bs).2
def rStart (bs : List UInt8) : Nd × St := if (rHead bs).1 then (⟨true, [], [], []⟩, (rCnt bs).2) else rBeh (⟨false, [], [], []⟩, (rCnt bs).2)
def rNode (bs : List UInt8) : Nd × St := rLoop (rCnt bs).1.toNat (rStart bs)
theorem tk_le {α : Type} {z t : α} {k : Nat} {s : St} : (tk z t k s).2.1.length ≤ s.1.length := by
  unfold tk
  split
  · exact Nat.le_refl _
  · split
    · simp
    · simp
theorem sAt_le (bs : List UInt8) (most : Int) : (sAt bs most).1.length ≤ bs.length := by
  unfold sAt
  split
  · simp
  · simp; omega
theorem rdT_le {most : Int} {s : St} : (rdT most s).1.length ≤ s.1.length := by
  unfold rdT tk
  split
  · simp
  · split
    · simp
    · exact sAt_le _ _
theorem rdC_le {most : Int} {s : St} (h : 0 ≤ most) : 0 ≤ (rdC most s).1 ∧ (rdC most s).1 ≤ most := by
  have : ((cAt s.1 most).1 : Int) ≤ most := by
    unfold cAt
    split
    · rename_i hc; exact hc.2.1
    · exact h
  unfold rdC tk
  split
  · exact ⟨Int.le_refl _, h⟩
  · split
    · exact ⟨Int.le_refl _, h⟩
    · exact ⟨Int.natCast_nonneg _, this⟩

abbrev pRow (rr : Nat) : ARow := .cells 56 [.pointer (some ⟨rr, 0, none⟩)]
/-- The texts and the rest are no longer than what was handed in; as many as were read. -/
structure RB (B j : Nat) (x : Nd × St) : Prop where
  k : x.1.ks.length ≤ j
  v : x.1.vs.length ≤ j
  z : x.1.kids.length ≤ j + 1
  kl : ∀ k ∈ x.1.ks, k.length ≤ B
  vl : ∀ k ∈ x.1.vs, k.length ≤ B
  s : x.2.1.length ≤ B
/-- A node that is being read: its rows, the reader's ahead. -/
def RdS (T M : RL) (rr rn rb ro : Nat) (X : ARow) (x : Nd × St) (L' : RL) : Prop := ∃ v m1 m2 m3 R1 Rb, L' = (rr, rdRowOf v x.2.2) :: (rn, ndRow x.1.leaf m1 m2 m3) :: (rb, pRow rr) :: (ro, X) :: (R1 ++ (Rb ++ M)) ∧ OV T v x.2.1 ∧
  GV 9 1 [] m1 x.1.ks.length (tx x.1.ks) R1 ∧
  ((x.1.leaf = true ∧ GV 9 1 [] m2 x.1.vs.length (tx x.1.vs) Rb ∧ m3 = .slice none 0 0 ∧ x.1.kids = []) ∨ (x.1.leaf = false ∧ GV 3 1 [] m3 x.1.kids.length (nums x.1.kids) Rb ∧ m2 = .slice none 0 0 ∧ x.1.vs = []))
theorem read1_ct {T F : RL} {rr rn rb ro : Nat} {X : ARow} {s : St} {lf : Bool} {v m1 m2 m3 : Value} {vs : List (List UInt8)} {R : RL} (hT : ∀ p, p ∈ T → p ∈ F) (hv : OV T v s.1) (hn : s.1.length ≤ 100000) (hg : GV 9 1 [] m2 vs.length (tx vs) R) (hl : vs.length ≤ 100000) :
    CS Try.prog 57 [.pointer (some ⟨rn, 0, none⟩), .pointer (some ⟨rb, 0, none⟩)] ((rr, rdRowOf v s.2) :: (rn, ndRow lf m1 m2 m3) :: (rb, pRow rr) :: (ro, X) :: (R ++ F)) fun u L' => ∃ v' m' R', L' = (rr, rdRowOf v' (rdT 64 s).2.2) :: (rn, ndRow lf m1 m' m3) :: (rb, pRow rr) :: (ro, X) :: (R' ++ F) ∧ OV T v' (rdT 64 s).2.1 ∧ GV 9 1 [] m' (vs ++ [(rdT 64 s).1]).length (tx (vs ++ [(rdT 64 s).1])) R' := by
  suffices g : CS Try.prog 57 [.pointer (some ⟨rn, 0, none⟩), .pointer (some ⟨rb, 0, none⟩)] ((rr, rdRowOf v s.2) :: (rn, ndRow lf m1 m2 m3) :: (rb, pRow rr) :: (ro, X) :: (R ++ F)) fun u L' => ∃ v' r' y,
      L' = (r', .cells 9 (tx (vs ++ [(rdT 64 s).1]))) :: y :: (rr, rdRowOf v' (rdT 64 s).2.2) :: (rn, ndRow lf m1 (.slice (some ⟨r', 0, none⟩) (vs ++ [(rdT 64 s).1]).length openCap) m3) :: (rb, pRow rr) :: (ro, X) :: F ∧ OV T v' (rdT 64 s).2.1 by
    refine g.less fun u L' ⟨v', r', y, h1, h2⟩ => ⟨_, ?_, v', _, [(r', .cells 9 (tx (vs ++ [(rdT 64 s).1])))], rfl, h2, .inr ⟨r', rfl, by simp [tx], rfl⟩⟩
    rw [h1]
    exact Sub.trans (Sub.drop 5 rfl) (Sub.pulls [5, 5, 5, 5] rfl)
  refine CS.mk (fn := Try.f57) rfl rfl rfl rfl ?_
  repeat refine LS.seq ?_
  refine LS.drawn noGo mixed [(0, false), (1, false), (2, false), (3, true), (4, true), (5, true), (6, false), (7, true)] rfl rfl (by kernel_rfl) ?_
  refine ODS.pure rfl rfl (fun _ => rfl) rfl ?_
  refine ODS.read rfl rfl (e_load 1 rfl rfl rfl rfl rfl) rfl ?_
  refine ODS.read rfl rfl (e_load 2 rfl rfl rfl rfl rfl) rfl ?_
  refine ODS.call rfl rfl (fun _ => rfl) (((RStr_ct (T := T) (bs := s.1) (f := s.2) (most := 64) (by decide) (by decide) (fun p hp => by simp [hT p hp]) hv (by omega))).mono ?_)
  rintro u L' ⟨rfl, v', rfl, hv'⟩
  refine ⟨_, rfl, Keep.gone rfl (Keep.cons rfl (e_load 1 rfl rfl rfl rfl rfl) Keep.nil), ?_⟩
  refine ODS.fresh rfl rfl (e_new (fun _ => rfl) rfl) (fun _ => rfl) (fun _ => Keep.gone rfl (Keep.cons rfl (e_load 2 rfl rfl rfl rfl rfl) Keep.nil)) (fun rq => ?_)
  refine ODS.fresh rfl rfl (e_appendGV [(rq, _), (rr, _), (rn, _), (rb, _), (ro, _)] (F := F) (e := 9) (cs := tx vs) (n := vs.length) (m := 1) (sz := 1) (bts := 16) (GV.appendR F hg) (SV.row (sz := 1) (n := 1) (List.mem_cons_self ..) rfl) (by omega) rfl rfl rfl rfl (by omega) (by omega)) (fun _ => rfl) (fun _ => Keep.gone rfl (Keep.gone rfl Keep.nil)) (fun r2 => ?_)
  refine ODS.pure rfl rfl (fun _ => rfl) rfl ?_
  refine ODS.write rfl rfl (e_store 3 rfl rfl rfl rfl rfl rfl rfl rfl) rfl (Keep.gone rfl (Keep.gone rfl Keep.nil)) ?_
  refine ODS.nil ?_
  refine ⟨_, fun _ _ => rfl, ?_⟩
  have e1 : tx vs ++ [txt (rdT 64 s).1] = tx (vs ++ [(rdT 64 s).1]) := by simp [tx]
  refine ⟨v', r2, (rq, .cells 9 [txt (rdT 64 s).1]), ?_, hv'⟩
  rw [← e1, List.length_append]
  rfl
theorem read2_ct {T F : RL} {rr rn rb ro : Nat} {X : ARow} {s : St} {lf : Bool} {v m1 m2 m3 : Value} {vs : List Int} {R : RL} (hT : ∀ p, p ∈ T → p ∈ F) (hv : OV T v s.1) (hn : s.1.length ≤ 100000) (hg : GV 3 1 [] m3 vs.length (nums vs) R) (hl : vs.length ≤ 100000) :
    CS Try.prog 59 [.pointer (some ⟨rn, 0, none⟩), .pointer (some ⟨rb, 0, none⟩)] ((rr, rdRowOf v s.2) :: (rn, ndRow lf m1 m2 m3) :: (rb, pRow rr) :: (ro, X) :: (R ++ F)) fun u L' => ∃ v' m' R', L' = (rr, rdRowOf v' (rdC 32768 s).2.2) :: (rn, ndRow lf m1 m2 m') :: (rb, pRow rr) :: (ro, X) :: (R' ++ F) ∧ OV T v' (rdC 32768 s).2.1 ∧ GV 3 1 [] m' (vs ++ [(rdC 32768 s).1]).length (nums (vs ++ [(rdC 32768 s).1])) R' := by
  suffices g : CS Try.prog 59 [.pointer (some ⟨rn, 0, none⟩), .pointer (some ⟨rb, 0, none⟩)] ((rr, rdRowOf v s.2) :: (rn, ndRow lf m1 m2 m3) :: (rb, pRow rr) :: (ro, X) :: (R ++ F)) fun u L' => ∃ v' r' y,
      L' = (r', .cells 3 (nums (vs ++ [(rdC 32768 s).1]))) :: y :: (rr, rdRowOf v' (rdC 32768 s).2.2) :: (rn, ndRow lf m1 m2 (.slice (some ⟨r', 0, none⟩) (vs ++ [(rdC 32768 s).1]).length openCap)) :: (rb, pRow rr) :: (ro, X) :: F ∧ OV T v' (rdC 32768 s).2.1 by
    refine g.less fun u L' ⟨v', r', y, h1, h2⟩ => ⟨_, ?_, v', _, [(r', .cells 3 (nums (vs ++ [(rdC 32768 s).1])))], rfl, h2, .inr ⟨r', rfl, by simp [nums], rfl⟩⟩
    rw [h1]
    exact Sub.trans (Sub.drop 5 rfl) (Sub.pulls [5, 5, 5, 5] rfl)
  refine CS.mk (fn := Try.f59) rfl rfl rfl rfl ?_
  repeat refine LS.seq ?_
  refine LS.drawn noGo mixed [(0, false), (1, false), (2, false), (3, true), (4, true), (5, true), (6, false), (7, true)] rfl rfl (by kernel_rfl) ?_
  refine ODS.pure rfl rfl (fun _ => rfl) rfl ?_
  refine ODS.read rfl rfl (e_load 1 rfl rfl rfl rfl rfl) rfl ?_
  refine ODS.read rfl rfl (e_load 2 rfl rfl rfl rfl rfl) rfl ?_
  refine ODS.call rfl rfl (fun _ => rfl) (((RCount_ct (T := T) (bs := s.1) (f := s.2) (most := 32768) (by decide) (by decide) (fun p hp => by simp [hT p hp]) hv (by omega))).mono ?_)
  rintro u L' ⟨rfl, v', rfl, hv'⟩
  refine ⟨_, rfl, Keep.gone rfl (Keep.cons rfl (e_load 1 rfl rfl rfl rfl rfl) Keep.nil), ?_⟩
  refine ODS.fresh rfl rfl (e_new (fun _ => rfl) rfl) (fun _ => rfl) (fun _ => Keep.gone rfl (Keep.cons rfl (e_load 2 rfl rfl rfl rfl rfl) Keep.nil)) (fun rq => ?_)
  refine ODS.fresh rfl rfl (e_appendGV [(rq, _), (rr, _), (rn, _), (rb, _), (ro, _)] (F := F) (e := 3) (cs := nums vs) (n := vs.length) (m := 1) (sz := 1) (bts := 8) (GV.appendR F hg) (SV.row (sz := 1) (n := 1) (List.mem_cons_self ..) rfl) (by omega) rfl rfl rfl rfl (by omega) (by omega)) (fun _ => rfl) (fun _ => Keep.gone rfl (Keep.gone rfl Keep.nil)) (fun r2 => ?_)
  refine ODS.pure rfl rfl (fun _ => rfl) rfl ?_
  refine ODS.write rfl rfl (e_store 3 rfl rfl rfl rfl rfl rfl rfl rfl) rfl (Keep.gone rfl (Keep.gone rfl Keep.nil)) ?_
  refine ODS.nil ?_
  refine ⟨_, fun _ _ => rfl, ?_⟩
  have e1 : nums vs ++ [.int .i64 (rdC 32768 s).1] = nums (vs ++ [(rdC 32768 s).1]) := by simp [nums]
  refine ⟨v', r2, (rq, .cells 3 [.int .i64 (rdC 32768 s).1]), ?_, hv'⟩
  rw [← e1, List.length_append]
  rfl
def behF (lf : Bool) : Nat := if lf then 57 else 59
theorem beh_ct {T M : RL} {rr rn rb ro B j : Nat} {X : ARow} {x : Nd × St} {L : RL} (hT : ∀ p, p ∈ T → p ∈ M) (hB : B ≤ 100000) (hj : j ≤ 50000) (hb : RB B j x) (h : RdS T M rr rn rb ro X x L) :
    CS Try.prog (behF x.1.leaf) [.pointer (some ⟨rn, 0, none⟩), .pointer (some ⟨rb, 0, none⟩)] L fun u L' => RdS T M rr rn rb ro X (rBeh x) L' := by
  obtain ⟨⟨lf, ks, vs, kids⟩, s⟩ := x
  obtain ⟨v, m1, m2, m3, R1, Rb, rfl, hv, hk, hor⟩ := h
  obtain ⟨h1, h2, h3, h4, h5, h6⟩ := hb
  simp only at hv hk hor h1 h2 h3 h4 h5 h6
  have hT' : ∀ p, p ∈ T → p ∈ R1 ++ M := fun p hp => List.mem_append_right _ (hT p hp)
  rcases hor with ⟨rfl, hg, rfl, rfl⟩ | ⟨rfl, hg, rfl, rfl⟩
  · have := (read1_ct (rr := rr) (rn := rn) (rb := rb) (ro := ro) (X := X) (lf := true) (m1 := m1) (m3 := .slice none 0 0) hT' hv (by omega) hg (by omega))
    refine (CS.sub (Sub.cons (Sub.cons (Sub.cons (Sub.cons Sub.swap)))) this).less ?_
    rintro u L' ⟨v', m', R', rfl, hv', hg'⟩
    exact ⟨_, Sub.cons (Sub.cons (Sub.cons (Sub.cons Sub.swap))), v', m1, m', _, R1, R', rfl, hv', hk, .inl ⟨rfl, hg', rfl, rfl⟩⟩
  · have := (read2_ct (rr := rr) (rn := rn) (rb := rb) (ro := ro) (X := X) (lf := false) (m1 := m1) (m2 := .slice none 0 0) hT' hv (by omega) hg (by omega))
    refine (CS.sub (Sub.cons (Sub.cons (Sub.cons (Sub.cons Sub.swap)))) this).less ?_
    rintro u L' ⟨v', m', R', rfl, hv', hg'⟩
    exact ⟨_, Sub.cons (Sub.cons (Sub.cons (Sub.cons Sub.swap))), v', m1, _, m', R1, R', rfl, hv', hk, .inr ⟨rfl, hg', rfl, rfl⟩⟩
end Go.Proofs.Ytdffhllecojgcaa

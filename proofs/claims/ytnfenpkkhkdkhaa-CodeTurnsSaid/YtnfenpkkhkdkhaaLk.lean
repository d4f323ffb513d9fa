/- bastionlaw01.CodeTurns answers true: of two readers over the same bytes, asked by turns, each tells what the document's tells. -/
import Derived.Test.YtnfenpkkhkdkhaaLj
namespace Go.Proofs.Ytnfenpkkhkdkhaa.T
open Go.Am
set_option linter.unusedVariables false
set_option maxRecDepth 20000

/-- Where the four readers stand, and the bytes that were handed in. -/
def TS (T : RL) (rp rq rn rx ry : Nat) (sp sq : St) (C : List Int) (L : RL) : Prop := ∃ vp vq vx vy,
  L = (rp, rdRowOf vp sp.2) :: (rq, rdRowOf vq sq.2) :: (rn, .cells 5 (C.map fun x => .int .u8 x)) :: (rx, rrRowOf vx sp.2) :: (ry, rrRowOf vy sq.2) :: T ∧ OV T vp sp.1 ∧ OV T vq sq.1 ∧ OV T vx sp.1 ∧ OV T vy sq.1
def okS (s : St) : Prop := s.1.length ≤ 5000 ∧ (s.2 = true → s.1 = [])
theorem tk_ok {α : Type} {z t : α} {k : Nat} {s : St} (h : okS s) : okS (tk z t k s).2 := by
  obtain ⟨h1, h2⟩ := h
  unfold tk
  split
  · exact ⟨h1, h2⟩
  split
  · exact ⟨by simp, fun _ => rfl⟩
  · exact ⟨by simp; omega, fun hh => by simp at hh⟩
theorem askS_ok {t : Th} {s : St} (h : okS s) : okS (askS t s).2 := by
  unfold askS
  split
  · exact tk_ok h
  split
  · exact tk_ok h
  split
  · exact tk_ok h
  · exact tk_ok h

theorem sub3 {x a b c : Nat × ARow} {X T : RL} : Sub (a :: b :: c :: x :: (X ++ T)) (x :: (X ++ a :: b :: c :: T)) := by
  refine ⟨[], ?_⟩
  rw [List.append_nil]
  have h1 : (X ++ a :: b :: c :: T).Perm (a :: b :: c :: (X ++ T)) := List.perm_middle.trans ((List.perm_middle.trans ((List.perm_middle).cons b)).cons a)
  exact (h1.cons x).trans ((List.perm_middle (l₁ := [a, b, c]) (l₂ := X ++ T) (a := x)).symm)
theorem sub4 {x a b c d : Nat × ARow} {X T : RL} : Sub (a :: b :: c :: d :: x :: (X ++ T)) (x :: (X ++ a :: b :: c :: d :: T)) := by
  refine ⟨[], ?_⟩
  rw [List.append_nil]
  have h1 : (X ++ a :: b :: c :: d :: T).Perm (a :: b :: c :: d :: (X ++ T)) := List.perm_middle.trans ((List.perm_middle.trans ((List.perm_middle.trans ((List.perm_middle).cons c)).cons b)).cons a)
  exact (h1.cons x).trans ((List.perm_middle (l₁ := [a, b, c, d]) (l₂ := X ++ T) (a := x)).symm)

theorem NewReaderT_ct {L : RL} {b : Value} {bs : List UInt8} (hb : SV 1 L b bs.length (byteCells bs)) (hn : bs.length ≤ 400000000000) :
    CS Try.prog 12 [b] L fun v L' => ∃ r rb, v = .pointer (some ⟨r, 0, none⟩) ∧ L' = (r, rdRowOf (.slice (some ⟨rb, 0, none⟩) bs.length openCap) false) :: (rb, .cells 5 (byteCells bs)) :: L := by
  refine CS.mk (fn := Try.f12) rfl rfl rfl rfl ?_
  repeat refine LS.seq ?_
  refine LS.region rfl ?_
  refine OS.pure rfl (fun _ => rfl) rfl ?_
  refine OS.nil ?_
  repeat refine LS.seq ?_
  refine LS.region rfl ?_
  refine OS.pure rfl (fun _ => rfl) rfl ?_
  refine OS.call noGo rfl (fun _ => rfl) ((own_ct (room := 0) hb hn (by omega)).mono ?_)
  rintro v L' ⟨rb, rfl, rfl⟩
  refine ⟨_, rfl, ?_⟩
  refine OS.pure rfl (fun _ => rfl) rfl ?_
  refine OS.pure rfl (fun _ => rfl) rfl ?_
  refine OS.fresh rfl (e_new (fun _ => rfl) rfl) (fun _ => rfl) (fun r => ?_)
  refine OS.pure rfl (fun _ => rfl) rfl ?_
  refine OS.nil ?_
  refine LS.ret ⟨_, fun _ _ => rfl, ?_⟩
  exact ⟨r, rb, rfl, rfl⟩
theorem OV.self {T : RL} {rb : Nat} {bs : List UInt8} (h : (rb, ARow.cells 5 (byteCells bs)) ∈ T) : OV T (.slice (some ⟨rb, 0, none⟩) bs.length openCap) bs := .inr ⟨rb, 0, byteCells bs, rfl, h, cut_all (byteCells_len bs)⟩
theorem ODS.atT {P : Program} {ops : List Oper} {ms : List Nat} {sched : List (Nat × Bool)} {dn : Dn} {q : Nat} {K : Slots → RL → Prop} {a : Slots} {o : Oper} {x : Operand} {T L : RL} {t e : TypeId} {i : Operand} {sz n j : Nat} {k : IntKind} {v : Value} {cs : List Value} (hs : SV sz T v n cs) (hj : j < n) (hq : ops[q]? = some o) (hw : wantedB ops o a = true) (ho : o.op = .indexAddr t x i) (hx : aev a x = some v) (hi : aev a i = some (.int k (j : Int)))
    (ht : P.underlying t = some (.slice e)) (hz : sizeB P e = some sz) (hk : ∀ r off row cs₀, (r, row) ∈ T → rdRow row = some cs₀ → (∀ us, cut cs (j * sz) sz = some us → cut cs₀ off sz = some us) →
      ∃ a₁, putAt a o.dst (.pointer (some ⟨r, off, none⟩)) = some a₁ ∧ ODS P ops ms K sched dn a₁ L) : ODS P ops ms K ((q, false) :: sched) dn a L := by
  obtain ⟨r, off, row, cs₀, h1, h2, h3, h4, h5⟩ := e_at hs hj ho hx hi ht hz
  obtain ⟨a₁, ep, k'⟩ := hk r off row cs₀ h1 h2 h4
  exact Am.ODS.pure hq hw h5 ep k'

set_option maxHeartbeats 4000000 in
theorem turns_ct {L : RL} {b l m : Value} {n nl nm : Nat} {bs : List UInt8} {ts us : List Th} (hb : RO 1 L b n (byteCells bs)) (hl : RO 3 L l nl (ts.flatMap Th.cells)) (hm : RO 3 L m nm (us.flatMap Th.cells)) (hok : ∀ t ∈ ts, t.ok) (huk : ∀ t ∈ us, t.ok)
    (hn : n ≤ 9223372036854775807) (hnl : nl ≤ 9223372036854775807) (hnm : nm ≤ 9223372036854775807) :
    CS Try.prog 4 [b, l, m] L fun v _ => v = .bool true := by
  have hlt : ts.length = nl := by have := hl.sv.len; rw [flat_len] at this; omega
  have hlu : us.length = nm := by have := hm.sv.len; rw [flat_len] at this; omega
  have hbl : bs.length = n := by have := hb.sv.len; simpa [byteCells] using this
  refine CS.mk (fn := Try.f4) rfl rfl rfl rfl ?_
  repeat refine LS.seq ?_
  refine LS.region rfl ?_
  refine OS.pure rfl (fun _ => rfl) rfl ?_
  refine OS.nil ?_
  by_cases hbig : n > 5000
  · have hb0 : (!ileB (n : Int) 5000) = true := by rw [ileB_eq]; simp; omega
    repeat refine LS.seq ?_
    refine LS.region rfl ?_
    refine OS.pure rfl (fun _ => rfl) rfl ?_
    refine OS.pure rfl (e_len hb.sv rfl rfl rfl rfl rfl) rfl ?_
    refine OS.pure rfl (e_is (fun _ => rfl) (congrArg Value.bool hb0)) rfl ?_
    refine OS.pure rfl (fun _ => rfl) rfl ?_
    refine OS.skip rfl rfl ?_
    refine OS.skip rfl rfl ?_
    refine OS.pure rfl (fun _ => rfl) rfl ?_
    refine OS.pure rfl (fun _ => rfl) rfl ?_
    refine OS.skip rfl rfl ?_
    refine OS.skip rfl rfl ?_
    refine OS.pure rfl (fun _ => rfl) rfl ?_
    refine OS.nil ?_
    refine LS.cond rfl (fun hc => ?_) (fun hc => by cases hc)
    repeat refine LS.seq ?_
    refine LS.region rfl ?_
    refine OS.pure rfl (fun _ => rfl) rfl ?_
    refine OS.nil ?_
    refine LS.ret ⟨_, fun _ _ => rfl, ?_⟩
    rfl
  have hb0 : (!ileB (n : Int) 5000) = false := by rw [ileB_eq]; simp; omega
  repeat refine LS.seq ?_
  refine LS.region rfl ?_
  refine OS.pure rfl (fun _ => rfl) rfl ?_
  refine OS.pure rfl (e_len hb.sv rfl rfl rfl rfl rfl) rfl ?_
  refine OS.pure rfl (e_is (fun _ => rfl) (congrArg Value.bool hb0)) rfl ?_
  refine OS.pure rfl (fun _ => rfl) rfl ?_
  refine OS.pure rfl (fun _ => rfl) rfl ?_
  refine OS.call noGo rfl (fun _ => rfl) ((long_ct hl.sv hok hnl).mono ?_)
  rintro v L' ⟨rfl, b0, rfl, hw⟩
  cases b0 with
  | true =>
    refine ⟨_, rfl, ?_⟩
    refine OS.pure rfl (fun _ => rfl) rfl ?_
    refine OS.pure rfl (fun _ => rfl) rfl ?_
    refine OS.skip rfl rfl ?_
    refine OS.skip rfl rfl ?_
    refine OS.pure rfl (fun _ => rfl) rfl ?_
    refine OS.nil ?_
    refine LS.cond rfl (fun hc => ?_) (fun hc => by cases hc)
    repeat refine LS.seq ?_
    refine LS.region rfl ?_
    refine OS.pure rfl (fun _ => rfl) rfl ?_
    refine OS.nil ?_
    refine LS.ret ⟨_, fun _ _ => rfl, ?_⟩
    rfl
  | false =>
  refine ⟨_, rfl, ?_⟩
  refine OS.pure rfl (fun _ => rfl) rfl ?_
  refine OS.pure rfl (fun _ => rfl) rfl ?_
  refine OS.pure rfl (fun _ => rfl) rfl ?_
  refine OS.call noGo rfl (fun _ => rfl) ((long_ct hm.sv huk hnm).mono ?_)
  rintro v L2 ⟨rfl, b1, rfl, hw2⟩
  cases b1 with
  | true =>
    refine ⟨_, rfl, ?_⟩
    refine OS.pure rfl (fun _ => rfl) rfl ?_
    refine OS.nil ?_
    refine LS.cond rfl (fun hc => ?_) (fun hc => by cases hc)
    repeat refine LS.seq ?_
    refine LS.region rfl ?_
    refine OS.pure rfl (fun _ => rfl) rfl ?_
    refine OS.nil ?_
    refine LS.ret ⟨_, fun _ _ => rfl, ?_⟩
    rfl
  | false =>
  have hw := hw rfl
  have hw2 := hw2 rfl
  have hm1 := weigh_len ts
  have hm2 := weigh_len us
  refine ⟨_, rfl, ?_⟩
  refine OS.pure rfl (fun _ => rfl) rfl ?_
  refine OS.nil ?_
  refine LS.cond rfl (fun hc => by cases hc) (fun hc => ?_)
  refine LS.skip ?_
  repeat refine LS.seq ?_
  refine LS.region rfl ?_
  refine OS.fresh rfl (e_new (fun _ => rfl) rfl) (fun _ => rfl) (fun r2 => ?_)
  refine Am.OS.opened 24 0 (sz := 1) rfl rfl rfl (by decide) (by decide) rfl ?_
  refine OS.pure rfl (fun _ => rfl) rfl ?_
  refine OS.fresh rfl (e_appendSV 0 (sz := 1) (bts := 1) (old := []) hb.sv.cons (byteCells_one bs) rfl rfl rfl (by omega) (by omega) rfl cut_zero rfl) (fun _ => rfl) (fun rn => ?_)
  refine OS.pure rfl (fun _ => rfl) rfl ?_
  refine OS.nil ?_
  rw [Nat.zero_add]
  have hin : ∀ {Y : RL}, (rn, ARow.cells 5 (byteCells bs)) ∈ Y → SV 1 Y (.slice (some ⟨rn, 0, none⟩) n openCap) bs.length (byteCells bs) := fun h => by rw [← hbl]; exact SV.row h (by rw [byteCells_len]; omega)
  repeat refine LS.seq ?_
  refine LS.region rfl ?_
  refine OS.pure rfl (fun _ => rfl) rfl ?_
  refine OS.call noGo rfl (fun _ => rfl) ((NewReaderT_ct (hin (List.mem_cons_self ..)) (by omega)).mono ?_)
  rintro v L3 ⟨rp, rb1, rfl, rfl⟩
  refine ⟨_, rfl, ?_⟩
  refine OS.sub (Sub.pulls [2, 1] rfl) ?_
  refine OS.pure rfl (fun _ => rfl) rfl ?_
  refine OS.call noGo rfl (fun _ => rfl) ((NewReaderT_ct (hin (by simp)) (by omega)).mono ?_)
  rintro v L3 ⟨rq, rb2, rfl, rfl⟩
  refine ⟨_, rfl, ?_⟩
  refine OS.sub (Sub.pulls [3, 1, 3] rfl) ?_
  refine OS.pure rfl (fun _ => rfl) rfl ?_
  refine OS.pure rfl (fun _ => rfl) rfl ?_
  refine OS.nil ?_
  repeat refine LS.seq ?_
  refine LS.region rfl ?_
  refine OS.pure rfl (fun _ => rfl) rfl ?_
  refine OS.call noGo rfl (fun _ => rfl) ((rNewReader_ct (hb.sv.mono fun p hp => by simp [hp]) (by omega)).mono ?_)
  rintro v L3 ⟨rx, X1, rfl, vx, rfl, hvx⟩
  refine ⟨_, rfl, ?_⟩
  refine OS.sub sub3 ?_
  refine OS.pure rfl (fun _ => rfl) rfl ?_
  refine OS.call noGo rfl (fun _ => rfl) ((rNewReader_ct (hb.sv.mono fun p hp => by simp [hp]) (by omega)).mono ?_)
  rintro v L3 ⟨ry, X2, rfl, vy, rfl, hvy⟩
  refine ⟨_, rfl, ?_⟩
  refine OS.sub sub4 ?_
  refine OS.pure rfl (fun _ => rfl) rfl ?_
  refine OS.pure rfl (fun _ => rfl) rfl ?_
  refine OS.nil ?_
  generalize hTd : (X2 ++ (X1 ++ (rb2, ARow.cells 5 (byteCells bs)) :: (rb1, ARow.cells 5 (byteCells bs)) :: L2) : RL) = T
  have hX1 : ∀ p, p ∈ X1 → p ∈ T := fun p hp => by rw [← hTd]; simp [hp]
  have hX2 : ∀ p, p ∈ X2 → p ∈ T := fun p hp => by rw [← hTd]; simp [hp]
  have hL2 : ∀ p, p ∈ L2 → p ∈ T := fun p hp => by rw [← hTd]; simp [hp]
  have hr1 : (rb1, ARow.cells 5 (byteCells bs)) ∈ T := by rw [← hTd]; simp
  have hr2 : (rb2, ARow.cells 5 (byteCells bs)) ∈ T := by rw [← hTd]; simp
  have hlT : SV 3 T l nl (ts.flatMap Th.cells) := hl.sv.mono hL2
  have hmT : SV 3 T m nm (us.flatMap Th.cells) := hm.sv.mono hL2
  have htO : ∀ {i}, (h : i < nl) → ts[i]? = some (ts[i]'(by omega)) ∧ (ts[i]'(by omega)).ok := fun h => ⟨List.getElem?_eq_getElem _, hok _ (List.getElem_mem _)⟩
  have huO : ∀ {i}, (h : i < nm) → us[i]? = some (us[i]'(by omega)) ∧ (us[i]'(by omega)).ok := fun h => ⟨List.getElem?_eq_getElem _, huk _ (List.getElem_mem _)⟩
  repeat refine LS.seq ?_
  refine LS.region rfl ?_
  refine OS.pure rfl (fun _ => rfl) rfl ?_
  refine OS.nil ?_
  repeat refine LS.seq ?_
  refine LS.block ?_
  refine LS.loopJ [1, 2, 6, 7, 8, 9, 10, 11, 12] (fun q a L => ∃ i sp sq C, q = nl + nm - i ∧ i ≤ nl + nm ∧ okS sp ∧ okS sq ∧ C.length = n ∧ TS T rp rq rn rx ry sp sq C L ∧ a = [.chan none, l, m, .chan none, .chan none, .chan none, .bool false, .slice (some ⟨rn, 0, none⟩) n openCap, .pointer (some ⟨rp, 0, none⟩), .pointer (some ⟨rq, 0, none⟩), .pointer (some ⟨rx, 0, none⟩), .pointer (some ⟨ry, 0, none⟩), .int .i64 (i : Nat), .chan none, .chan none, .chan none, .chan none, .chan none, .chan none, .chan none, .chan none, .chan none, .chan none, .chan none, .chan none, .chan none, .chan none, .chan none, .chan none, .chan none, .chan none, .chan none, .chan none, .chan none, .chan none, .chan none, .chan none, .chan none, .chan none, .chan none, .chan none, .chan none, .chan none, .chan none, .chan none, .chan none, .chan none, .chan none, .chan none, .chan none, .chan none, .chan none, .chan none, .chan none, .chan none, .chan none, .chan none, .chan none, .chan none, .chan none, .chan none, .chan none, .chan none, .chan none, .chan none, .chan none, .chan none, .chan none, .chan none, .chan none, .chan none, .chan none, .chan none, .chan none, .chan none, .chan none, .chan none, .chan none, .chan none, .chan none, .chan none, .chan none, .chan none, .chan none, .chan none, .chan none, .chan none, .chan none, .chan none, .chan none, .chan none, .chan none, .chan none, .chan none, .chan none, .chan none, .chan none, .chan none, .chan none, .chan none, .chan none, .chan none, .chan none, .chan none, .chan none, .chan none, .chan none, .chan none, .chan none, .chan none, .chan none, .chan none, .chan none, .chan none, .chan none, .chan none, .chan none, .chan none, .chan none, .chan none, .chan none, .chan none, .chan none, .chan none, .chan none, .chan none, .chan none, .chan none, .chan none, .chan none, .chan none, .chan none, .chan none, .chan none, .chan none, .chan none, .chan none, .chan none, .chan none, .chan none, .chan none, .chan none, .chan none, .chan none, .chan none, .chan none, .chan none, .chan none, .chan none, .chan none, .chan none]) (n := nl + nm) rfl
    ⟨0, (bs, false), (bs, false), bs.map fun b => (b.toNat : Int), rfl, by omega, ⟨by simp only; omega, fun h => by cases h⟩, ⟨by simp only; omega, fun h => by cases h⟩, by simpa using hbl, ⟨_, _, _, _, by simp [byteCells], OV.self hr1, OV.self hr2, hvx.mono hX1, hvy.mono hX2⟩, rfl⟩ ?_
  rintro q a L ⟨i, sp, sq, C, rfl, hi, hsp, hsq, hC, hTS, rfl⟩
  by_cases hgo : i < nl ∨ i < nm
  · refine LS.seq ?_
    refine LS.mid [1, 2, 6, 7, 8, 9, 10, 11, 12] (fun a L => TS T rp rq rn rx ry sp sq C L ∧ a = [.chan none, l, m, .chan none, .chan none, .chan none, .bool false, .slice (some ⟨rn, 0, none⟩) n openCap, .pointer (some ⟨rp, 0, none⟩), .pointer (some ⟨rq, 0, none⟩), .pointer (some ⟨rx, 0, none⟩), .pointer (some ⟨ry, 0, none⟩), .int .i64 (i : Nat), .chan none, .chan none, .chan none, .chan none, .chan none, .chan none, .chan none, .chan none, .chan none, .chan none, .chan none, .chan none, .chan none, .chan none, .chan none, .chan none, .chan none, .chan none, .chan none, .chan none, .chan none, .chan none, .chan none, .chan none, .chan none, .chan none, .chan none, .chan none, .chan none, .chan none, .chan none, .chan none, .chan none, .chan none, .chan none, .chan none, .chan none, .chan none, .chan none, .chan none, .chan none, .chan none, .chan none, .chan none, .chan none, .chan none, .chan none, .chan none, .chan none, .chan none, .chan none, .chan none, .chan none, .chan none, .chan none, .chan none, .chan none, .chan none, .chan none, .chan none, .chan none, .chan none, .chan none, .chan none, .chan none, .chan none, .chan none, .chan none, .chan none, .chan none, .chan none, .chan none, .chan none, .chan none, .chan none, .chan none, .chan none, .chan none, .chan none, .chan none, .chan none, .chan none, .chan none, .chan none, .chan none, .chan none, .chan none, .chan none, .chan none, .chan none, .chan none, .chan none, .chan none, .chan none, .chan none, .chan none, .chan none, .chan none, .chan none, .chan none, .chan none, .chan none, .chan none, .chan none, .chan none, .chan none, .chan none, .chan none, .chan none, .chan none, .chan none, .chan none, .chan none, .chan none, .chan none, .chan none, .chan none, .chan none, .chan none, .chan none, .chan none, .chan none, .chan none, .chan none, .chan none, .chan none, .chan none, .chan none, .chan none, .chan none, .chan none, .chan none, .chan none, .chan none, .chan none, .chan none, .chan none, .chan none]) ?_ ?_
    · by_cases hA : i < nl
      · have hb1 : (!ileB (nl : Int) (i : Int)) = true := by rw [ileB_eq]; simp; omega
        repeat refine LS.seq ?_
        refine LS.region rfl ?_
        refine OS.pure rfl (fun _ => rfl) rfl ?_
        refine OS.pure rfl (fun _ => rfl) rfl ?_
        refine OS.pure rfl (e_len hl.sv rfl rfl rfl rfl rfl) rfl ?_
        refine OS.pure rfl (e_is (fun _ => rfl) (congrArg Value.bool hb1)) rfl ?_
        refine OS.pure rfl (fun _ => rfl) rfl ?_
        refine OS.skip rfl rfl ?_
        refine OS.skip rfl rfl ?_
        refine OS.skip rfl rfl ?_
        refine OS.skip rfl rfl ?_
        refine OS.pure rfl (fun _ => rfl) rfl ?_
        refine OS.nil ?_
        refine LS.cond rfl (fun hc => ?_) (fun hc => by cases hc)
        refine LS.skip ?_
        exact ⟨hTS, rfl⟩
      · have hb1 : (!ileB (nl : Int) (i : Int)) = false := by rw [ileB_eq]; simp; omega
        have hb2 : (!ileB (nm : Int) (i : Int)) = true := by rw [ileB_eq]; simp; omega
        repeat refine LS.seq ?_
        refine LS.region rfl ?_
        refine OS.pure rfl (fun _ => rfl) rfl ?_
        refine OS.pure rfl (fun _ => rfl) rfl ?_
        refine OS.pure rfl (e_len hl.sv rfl rfl rfl rfl rfl) rfl ?_
        refine OS.pure rfl (e_is (fun _ => rfl) (congrArg Value.bool hb1)) rfl ?_
        refine OS.pure rfl (fun _ => rfl) rfl ?_
        refine OS.pure rfl (fun _ => rfl) rfl ?_
        refine OS.pure rfl (fun _ => rfl) rfl ?_
        refine OS.pure rfl (e_len hm.sv rfl rfl rfl rfl rfl) rfl ?_
        refine OS.pure rfl (e_is (fun _ => rfl) (congrArg Value.bool hb2)) rfl ?_
        refine OS.pure rfl (fun _ => rfl) rfl ?_
        refine OS.nil ?_
        refine LS.cond rfl (fun hc => ?_) (fun hc => by cases hc)
        refine LS.skip ?_
        exact ⟨hTS, rfl⟩
    rintro a L ⟨⟨vp, vq, vx, vy, rfl, hvp, hvq, hvx, hvy⟩, rfl⟩
    refine LS.seq ?_
    refine LS.block ?_
    refine LS.seq ?_
    refine LS.mid [1, 2, 6, 7, 8, 9, 10, 11, 12] (fun a L => ∃ C, C.length = n ∧ TS T rp rq rn rx ry sp sq C L ∧ a = [.chan none, l, m, .chan none, .chan none, .chan none, .bool false, .slice (some ⟨rn, 0, none⟩) n openCap, .pointer (some ⟨rp, 0, none⟩), .pointer (some ⟨rq, 0, none⟩), .pointer (some ⟨rx, 0, none⟩), .pointer (some ⟨ry, 0, none⟩), .int .i64 (i : Nat), .chan none, .chan none, .chan none, .chan none, .chan none, .chan none, .chan none, .chan none, .chan none, .chan none, .chan none, .chan none, .chan none, .chan none, .chan none, .chan none, .chan none, .chan none, .chan none, .chan none, .chan none, .chan none, .chan none, .chan none, .chan none, .chan none, .chan none, .chan none, .chan none, .chan none, .chan none, .chan none, .chan none, .chan none, .chan none, .chan none, .chan none, .chan none, .chan none, .chan none, .chan none, .chan none, .chan none, .chan none, .chan none, .chan none, .chan none, .chan none, .chan none, .chan none, .chan none, .chan none, .chan none, .chan none, .chan none, .chan none, .chan none, .chan none, .chan none, .chan none, .chan none, .chan none, .chan none, .chan none, .chan none, .chan none, .chan none, .chan none, .chan none, .chan none, .chan none, .chan none, .chan none, .chan none, .chan none, .chan none, .chan none, .chan none, .chan none, .chan none, .chan none, .chan none, .chan none, .chan none, .chan none, .chan none, .chan none, .chan none, .chan none, .chan none, .chan none, .chan none, .chan none, .chan none, .chan none, .chan none, .chan none, .chan none, .chan none, .chan none, .chan none, .chan none, .chan none, .chan none, .chan none, .chan none, .chan none, .chan none, .chan none, .chan none, .chan none, .chan none, .chan none, .chan none, .chan none, .chan none, .chan none, .chan none, .chan none, .chan none, .chan none, .chan none, .chan none, .chan none, .chan none, .chan none, .chan none, .chan none, .chan none, .chan none, .chan none, .chan none, .chan none, .chan none, .chan none, .chan none, .chan none, .chan none]) ?_ ?_
    · by_cases hin2 : i < n
      · have hb1 : (!ileB (n : Int) (i : Int)) = true := by rw [ileB_eq]; simp; omega
        repeat refine LS.seq ?_
        refine LS.region rfl ?_
        refine OS.pure rfl (fun _ => rfl) rfl ?_
        refine OS.pure rfl (fun _ => rfl) rfl ?_
        refine OS.pure rfl (fun _ => rfl) rfl ?_
        refine OS.pure rfl (e_is (fun _ => rfl) (congrArg Value.bool hb1)) rfl ?_
        refine OS.nil ?_
        refine LS.cond rfl (fun hc => ?_) (fun hc => by cases hc)
        repeat refine LS.seq ?_
        refine LS.region rfl ?_
        refine OS.pure rfl (fun _ => rfl) rfl ?_
        refine OS.pure rfl (fun _ => rfl) rfl ?_
        refine OS.pure rfl (fun _ => rfl) rfl ?_
        refine OS.pure rfl (fun _ => rfl) rfl ?_
        refine Am.OS.at1 (j := i) (u := .int .u8 C[i]) (SV.row (e := 5) (r := rn) (sz := 1) (n := n) (cs := C.map fun x => .int .u8 x) (by simp) (by simpa using hC)) (by simp [List.getElem?_eq_getElem (show i < C.length by omega)]) rfl rfl rfl rfl rfl rfl (fun r0 o0 row0 cs0 m0 c0 g0 => ?_)
        refine ⟨_, rfl, ?_⟩
        refine OS.read rfl (e_loadm m0 c0 rfl rfl (part_one rfl g0)) rfl ?_
        refine OS.pure rfl (fun _ => rfl) rfl ?_
        refine OS.pure rfl (e_index (r := rn) (off := 0) (j := i) (sz := 1) rfl rfl rfl rfl rfl hin2) rfl ?_
        refine OS.write rfl (e_store 2 (n := 1) rfl rfl rfl rfl rfl rfl (lay_one (by simp; omega)) rfl) rfl ?_
        refine OS.nil ?_
        refine ⟨C.set i (wrapB .u8 (C[i] + 77)), by simpa using hC, ⟨vp, vq, vx, vy, ?_, hvp, hvq, hvx, hvy⟩, rfl⟩
        rw [List.map_set]; simp
      · have hb1 : (!ileB (n : Int) (i : Int)) = false := by rw [ileB_eq]; simp; omega
        repeat refine LS.seq ?_
        refine LS.region rfl ?_
        refine OS.pure rfl (fun _ => rfl) rfl ?_
        refine OS.pure rfl (fun _ => rfl) rfl ?_
        refine OS.pure rfl (fun _ => rfl) rfl ?_
        refine OS.pure rfl (e_is (fun _ => rfl) (congrArg Value.bool hb1)) rfl ?_
        refine OS.nil ?_
        refine LS.cond rfl (fun hc => by cases hc) (fun hc => ?_)
        refine LS.skip ?_
        exact ⟨C, hC, ⟨vp, vq, vx, vy, rfl, hvp, hvq, hvx, hvy⟩, rfl⟩
    clear hTS hC hvp hvq hvx hvy
    rintro a L ⟨C, hC, ⟨vp, vq, vx, vy, rfl, hvp, hvq, hvx, hvy⟩, rfl⟩
    refine LS.seq ?_
    refine LS.mid [1, 2, 6, 7, 8, 9, 10, 11, 12] (fun a L => ∃ sp sq, okS sp ∧ okS sq ∧ TS T rp rq rn rx ry sp sq C L ∧ a = [.chan none, l, m, .chan none, .chan none, .chan none, .bool false, .slice (some ⟨rn, 0, none⟩) n openCap, .pointer (some ⟨rp, 0, none⟩), .pointer (some ⟨rq, 0, none⟩), .pointer (some ⟨rx, 0, none⟩), .pointer (some ⟨ry, 0, none⟩), .int .i64 (i : Nat), .chan none, .chan none, .chan none, .chan none, .chan none, .chan none, .chan none, .chan none, .chan none, .chan none, .chan none, .chan none, .chan none, .chan none, .chan none, .chan none, .chan none, .chan none, .chan none, .chan none, .chan none, .chan none, .chan none, .chan none, .chan none, .chan none, .chan none, .chan none, .chan none, .chan none, .chan none, .chan none, .chan none, .chan none, .chan none, .chan none, .chan none, .chan none, .chan none, .chan none, .chan none, .chan none, .chan none, .chan none, .chan none, .chan none, .chan none, .chan none, .chan none, .chan none, .chan none, .chan none, .chan none, .chan none, .chan none, .chan none, .chan none, .chan none, .chan none, .chan none, .chan none, .chan none, .chan none, .chan none, .chan none, .chan none, .chan none, .chan none, .chan none, .chan none, .chan none, .chan none, .chan none, .chan none, .chan none, .chan none, .chan none, .chan none, .chan none, .chan none, .chan none, .chan none, .chan none, .chan none, .chan none, .chan none, .chan none, .chan none, .chan none, .chan none, .chan none, .chan none, .chan none, .chan none, .chan none, .chan none, .chan none, .chan none, .chan none, .chan none, .chan none, .chan none, .chan none, .chan none, .chan none, .chan none, .chan none, .chan none, .chan none, .chan none, .chan none, .chan none, .chan none, .chan none, .chan none, .chan none, .chan none, .chan none, .chan none, .chan none, .chan none, .chan none, .chan none, .chan none, .chan none, .chan none, .chan none, .chan none, .chan none, .chan none, .chan none, .chan none, .chan none, .chan none, .chan none, .chan none, .chan none, .chan none]) ?_ ?_
    · by_cases hA : i < nl
      · have hbA : (!ileB (nl : Int) (i : Int)) = true := by rw [ileB_eq]; simp; omega
        by_cases hB : i < nm
        · have hbB : (!ileB (nm : Int) (i : Int)) = true := by rw [ileB_eq]; simp; omega
          repeat refine LS.seq ?_
          refine LS.drawn noGo mixed [(0, false), (1, false), (2, false), (3, false), (4, false), (5, false), (6, false), (7, false), (8, false), (9, false), (11, false), (12, false), (13, false), (14, false), (15, false), (10, true), (16, true), (17, false), (18, false), (19, false), (20, false), (21, false), (22, false), (23, false), (24, false), (25, false), (26, false), (27, false), (28, false), (29, false), (31, false), (32, false), (33, false), (34, false), (35, false), (30, true), (36, true), (37, false), (38, false), (39, false)] rfl rfl (by kernel_rfl) ?_
          refine ODS.pure rfl rfl (fun _ => rfl) rfl ?_
          refine ODS.pure rfl rfl (fun _ => rfl) rfl ?_
          refine ODS.pure rfl rfl (e_len hl.sv rfl rfl rfl rfl rfl) rfl ?_
          refine ODS.pure rfl rfl (e_is (fun _ => rfl) (congrArg Value.bool hbA)) rfl ?_
          refine ODS.pure rfl rfl (fun _ => rfl) rfl ?_
          refine ODS.pure rfl rfl (fun _ => rfl) rfl ?_
          refine ODS.pure rfl rfl (fun _ => rfl) rfl ?_
          refine ODS.atT (j := i) hlT hA rfl rfl rfl rfl rfl rfl rfl (fun r0 o0 row0 cs0 m0 c0 k0 => ?_)
          refine ⟨_, rfl, ?_⟩
          refine ODS.read rfl rfl (e_loadm (by simp [m0]) c0 rfl rfl (part_agg rfl rfl (k0 _ (things_cut (htO hA).1)))) rfl ?_
          refine ODS.pure rfl rfl (fun _ => rfl) rfl ?_
          refine ODS.pure rfl rfl (fun _ => rfl) rfl ?_
          refine ODS.pure rfl rfl (fun _ => rfl) rfl ?_
          refine ODS.atT (j := i) hlT hA rfl rfl rfl rfl rfl rfl rfl (fun r1 o1 rowp cs1 m1 c1 k1 => ?_)
          refine ⟨_, rfl, ?_⟩
          refine ODS.read rfl rfl (e_loadm (by simp [m1]) c1 rfl rfl (part_agg rfl rfl (k1 _ (things_cut (htO hA).1)))) rfl ?_
          refine ODS.pure rfl rfl (fun _ => rfl) rfl ?_
          refine ODS.call rfl rfl (fun _ => rfl) (((ask_ct (ts[i]'(by omega)) (htO hA).2 (fun p hp => by simp [hp]) hvp (by have := hsp.1; omega))).mono ?_)
          rintro v' L3 ⟨rfl, wp, rfl, hwp⟩
          refine ⟨_, rfl, Keep.cons rfl (e_loadm (by simp [m1]) c1 rfl rfl (part_agg rfl rfl (k1 _ (things_cut (htO hA).1)))) (Keep.gone rfl Keep.nil), ?_⟩
          refine ODS.call rfl rfl (fun _ => rfl) ((CS.sub (Sub.pulls [3] rfl) (asked_ct (ts[i]'(by omega)) (htO hA).2 (fun p hp => by simp [hp]) hvx hsp.2 (by have := hsp.1; omega))).mono ?_)
          rintro v' L3 ⟨rfl, wx, rfl, hwx⟩
          refine ⟨_, rfl, Keep.gone rfl (Keep.gone rfl Keep.nil), ?_⟩
          refine ODS.pure rfl rfl (e_is (e_neTold (p := (askS (ts[i]'(by omega)) sp).1) (q := (askS (ts[i]'(by omega)) sp).1) rfl rfl rfl) (congrArg Value.bool (show (!decide ((askS (ts[i]'(by omega)) sp).1 = (askS (ts[i]'(by omega)) sp).1)) = false by simp))) rfl ?_
          refine ODS.pure rfl rfl (fun _ => rfl) rfl ?_
          refine ODS.pure rfl rfl (fun _ => rfl) rfl ?_
          refine ODS.pure rfl rfl (fun _ => rfl) rfl ?_
          refine ODS.pure rfl rfl (fun _ => rfl) rfl ?_
          refine ODS.pure rfl rfl (e_len hm.sv rfl rfl rfl rfl rfl) rfl ?_
          refine ODS.pure rfl rfl (e_is (fun _ => rfl) (congrArg Value.bool hbB)) rfl ?_
          refine ODS.pure rfl rfl (fun _ => rfl) rfl ?_
          refine ODS.pure rfl rfl (fun _ => rfl) rfl ?_
          refine ODS.pure rfl rfl (fun _ => rfl) rfl ?_
          refine ODS.atT (j := i) hmT hB rfl rfl rfl rfl rfl rfl rfl (fun r2 o0 row0 cs0 m2 c2 k2 => ?_)
          refine ⟨_, rfl, ?_⟩
          refine ODS.read rfl rfl (e_loadm (by simp [m2]) c2 rfl rfl (part_agg rfl rfl (k2 _ (things_cut (huO hB).1)))) rfl ?_
          refine ODS.pure rfl rfl (fun _ => rfl) rfl ?_
          refine ODS.pure rfl rfl (fun _ => rfl) rfl ?_
          refine ODS.pure rfl rfl (fun _ => rfl) rfl ?_
          refine ODS.atT (j := i) hmT hB rfl rfl rfl rfl rfl rfl rfl (fun r1 o1 rowq cs1 m3 c3 k3 => ?_)
          refine ⟨_, rfl, ?_⟩
          refine ODS.read rfl rfl (e_loadm (by simp [m3]) c3 rfl rfl (part_agg rfl rfl (k3 _ (things_cut (huO hB).1)))) rfl ?_
          refine ODS.pure rfl rfl (fun _ => rfl) rfl ?_
          refine ODS.call rfl rfl (fun _ => rfl) ((CS.sub (Sub.pulls [2] rfl) (ask_ct (us[i]'(by omega)) (huO hB).2 (fun p hp => by simp [hp]) hvq (by have := hsq.1; omega))).mono ?_)
          rintro v' L3 ⟨rfl, wq, rfl, hwq⟩
          refine ⟨_, rfl, Keep.cons rfl (e_loadm (by simp [m3]) c3 rfl rfl (part_agg rfl rfl (k3 _ (things_cut (huO hB).1)))) (Keep.gone rfl (Keep.gone rfl (Keep.gone rfl Keep.nil))), ?_⟩
          refine ODS.call rfl rfl (fun _ => rfl) ((CS.sub (Sub.pulls [4] rfl) (asked_ct (us[i]'(by omega)) (huO hB).2 (fun p hp => by simp [hp]) hvy hsq.2 (by have := hsq.1; omega))).mono ?_)
          rintro v' L3 ⟨rfl, wy, rfl, hwy⟩
          refine ⟨_, rfl, Keep.gone rfl (Keep.gone rfl (Keep.gone rfl (Keep.gone rfl Keep.nil))), ?_⟩
          refine ODS.pure rfl rfl (e_is (e_neTold (p := (askS (us[i]'(by omega)) sq).1) (q := (askS (us[i]'(by omega)) sq).1) rfl rfl rfl) (congrArg Value.bool (show (!decide ((askS (us[i]'(by omega)) sq).1 = (askS (us[i]'(by omega)) sq).1)) = false by simp))) rfl ?_
          refine ODS.pure rfl rfl (fun _ => rfl) rfl ?_
          refine ODS.pure rfl rfl (fun _ => rfl) rfl ?_
          refine ODS.nil ?_
          refine LS.cond rfl (fun hc => by cases hc) (fun hc => ?_)
          refine LS.sub (Sub.pulls [0, 2, 4, 3, 4] rfl) ?_
          refine LS.skip ?_
          exact ⟨(askS (ts[i]'(by omega)) sp).2, (askS (us[i]'(by omega)) sq).2, askS_ok hsp, askS_ok hsq, ⟨wp, wq, wx, wy, rfl, hwp, hwq, hwx, hwy⟩, rfl⟩
        · have hbB : (!ileB (nm : Int) (i : Int)) = false := by rw [ileB_eq]; simp; omega
          repeat refine LS.seq ?_
          refine LS.drawn noGo mixed [(0, false), (1, false), (2, false), (3, false), (4, false), (5, false), (6, false), (7, false), (8, false), (9, false), (11, false), (12, false), (13, false), (14, false), (15, false), (10, true), (16, true), (17, false), (18, false), (19, false), (20, false), (21, false), (22, false), (23, false), (24, false), (25, false), (26, false), (27, false), (28, false), (29, false), (31, false), (32, false), (33, false), (34, false), (35, false), (30, true), (36, true), (37, false), (38, false), (39, false)] rfl rfl (by kernel_rfl) ?_
          refine ODS.pure rfl rfl (fun _ => rfl) rfl ?_
          refine ODS.pure rfl rfl (fun _ => rfl) rfl ?_
          refine ODS.pure rfl rfl (e_len hl.sv rfl rfl rfl rfl rfl) rfl ?_
          refine ODS.pure rfl rfl (e_is (fun _ => rfl) (congrArg Value.bool hbA)) rfl ?_
          refine ODS.pure rfl rfl (fun _ => rfl) rfl ?_
          refine ODS.pure rfl rfl (fun _ => rfl) rfl ?_
          refine ODS.pure rfl rfl (fun _ => rfl) rfl ?_
          refine ODS.atT (j := i) hlT hA rfl rfl rfl rfl rfl rfl rfl (fun r0 o0 row0 cs0 m0 c0 k0 => ?_)
          refine ⟨_, rfl, ?_⟩
          refine ODS.read rfl rfl (e_loadm (by simp [m0]) c0 rfl rfl (part_agg rfl rfl (k0 _ (things_cut (htO hA).1)))) rfl ?_
          refine ODS.pure rfl rfl (fun _ => rfl) rfl ?_
          refine ODS.pure rfl rfl (fun _ => rfl) rfl ?_
          refine ODS.pure rfl rfl (fun _ => rfl) rfl ?_
          refine ODS.atT (j := i) hlT hA rfl rfl rfl rfl rfl rfl rfl (fun r1 o1 rowp cs1 m1 c1 k1 => ?_)
          refine ⟨_, rfl, ?_⟩
          refine ODS.read rfl rfl (e_loadm (by simp [m1]) c1 rfl rfl (part_agg rfl rfl (k1 _ (things_cut (htO hA).1)))) rfl ?_
          refine ODS.pure rfl rfl (fun _ => rfl) rfl ?_
          refine ODS.call rfl rfl (fun _ => rfl) (((ask_ct (ts[i]'(by omega)) (htO hA).2 (fun p hp => by simp [hp]) hvp (by have := hsp.1; omega))).mono ?_)
          rintro v' L3 ⟨rfl, wp, rfl, hwp⟩
          refine ⟨_, rfl, Keep.cons rfl (e_loadm (by simp [m1]) c1 rfl rfl (part_agg rfl rfl (k1 _ (things_cut (htO hA).1)))) (Keep.gone rfl Keep.nil), ?_⟩
          refine ODS.call rfl rfl (fun _ => rfl) ((CS.sub (Sub.pulls [3] rfl) (asked_ct (ts[i]'(by omega)) (htO hA).2 (fun p hp => by simp [hp]) hvx hsp.2 (by have := hsp.1; omega))).mono ?_)
          rintro v' L3 ⟨rfl, wx, rfl, hwx⟩
          refine ⟨_, rfl, Keep.gone rfl (Keep.gone rfl Keep.nil), ?_⟩
          refine ODS.pure rfl rfl (e_is (e_neTold (p := (askS (ts[i]'(by omega)) sp).1) (q := (askS (ts[i]'(by omega)) sp).1) rfl rfl rfl) (congrArg Value.bool (show (!decide ((askS (ts[i]'(by omega)) sp).1 = (askS (ts[i]'(by omega)) sp).1)) = false by simp))) rfl ?_
          refine ODS.pure rfl rfl (fun _ => rfl) rfl ?_
          refine ODS.pure rfl rfl (fun _ => rfl) rfl ?_
          refine ODS.pure rfl rfl (fun _ => rfl) rfl ?_
          refine ODS.pure rfl rfl (fun _ => rfl) rfl ?_
          refine ODS.pure rfl rfl (e_len hm.sv rfl rfl rfl rfl rfl) rfl ?_
          refine ODS.pure rfl rfl (e_is (fun _ => rfl) (congrArg Value.bool hbB)) rfl ?_
          refine ODS.pure rfl rfl (fun _ => rfl) rfl ?_
          refine ODS.skip rfl rfl rfl ?_
          refine ODS.skip rfl rfl rfl ?_
          refine ODS.skip rfl rfl rfl ?_
          refine ODS.skip rfl rfl rfl ?_
          refine ODS.skip rfl rfl rfl ?_
          refine ODS.skip rfl rfl rfl ?_
          refine ODS.skip rfl rfl rfl ?_
          refine ODS.skip rfl rfl rfl ?_
          refine ODS.skip rfl rfl rfl ?_
          refine ODS.skip rfl rfl rfl ?_
          refine ODS.skip rfl rfl rfl ?_
          refine ODS.skip rfl rfl rfl ?_
          refine ODS.skip rfl rfl rfl ?_
          refine ODS.pure rfl rfl (fun _ => rfl) rfl ?_
          refine ODS.pure rfl rfl (fun _ => rfl) rfl ?_
          refine ODS.nil ?_
          refine LS.cond rfl (fun hc => by cases hc) (fun hc => ?_)
          refine LS.sub (Sub.pulls [4, 1, 4, 4, 4] rfl) ?_
          refine LS.skip ?_
          exact ⟨(askS (ts[i]'(by omega)) sp).2, sq, askS_ok hsp, hsq, ⟨wp, vq, wx, vy, rfl, hwp, hvq, hwx, hvy⟩, rfl⟩
      · have hbA : (!ileB (nl : Int) (i : Int)) = false := by rw [ileB_eq]; simp; omega
        by_cases hB : i < nm
        · have hbB : (!ileB (nm : Int) (i : Int)) = true := by rw [ileB_eq]; simp; omega
          repeat refine LS.seq ?_
          refine LS.drawn noGo mixed [(0, false), (1, false), (2, false), (3, false), (4, false), (5, false), (6, false), (7, false), (8, false), (9, false), (11, false), (12, false), (13, false), (14, false), (15, false), (10, true), (16, true), (17, false), (18, false), (19, false), (20, false), (21, false), (22, false), (23, false), (24, false), (25, false), (26, false), (27, false), (28, false), (29, false), (31, false), (32, false), (33, false), (34, false), (35, false), (30, true), (36, true), (37, false), (38, false), (39, false)] rfl rfl (by kernel_rfl) ?_
          refine ODS.pure rfl rfl (fun _ => rfl) rfl ?_
          refine ODS.pure rfl rfl (fun _ => rfl) rfl ?_
          refine ODS.pure rfl rfl (e_len hl.sv rfl rfl rfl rfl rfl) rfl ?_
          refine ODS.pure rfl rfl (e_is (fun _ => rfl) (congrArg Value.bool hbA)) rfl ?_
          refine ODS.pure rfl rfl (fun _ => rfl) rfl ?_
          refine ODS.skip rfl rfl rfl ?_
          refine ODS.skip rfl rfl rfl ?_
          refine ODS.skip rfl rfl rfl ?_
          refine ODS.skip rfl rfl rfl ?_
          refine ODS.skip rfl rfl rfl ?_
          refine ODS.skip rfl rfl rfl ?_
          refine ODS.skip rfl rfl rfl ?_
          refine ODS.skip rfl rfl rfl ?_
          refine ODS.skip rfl rfl rfl ?_
          refine ODS.skip rfl rfl rfl ?_
          refine ODS.skip rfl rfl rfl ?_
          refine ODS.skip rfl rfl rfl ?_
          refine ODS.skip rfl rfl rfl ?_
          refine ODS.pure rfl rfl (fun _ => rfl) rfl ?_
          refine ODS.pure rfl rfl (fun _ => rfl) rfl ?_
          refine ODS.pure rfl rfl (fun _ => rfl) rfl ?_
          refine ODS.pure rfl rfl (fun _ => rfl) rfl ?_
          refine ODS.pure rfl rfl (e_len hm.sv rfl rfl rfl rfl rfl) rfl ?_
          refine ODS.pure rfl rfl (e_is (fun _ => rfl) (congrArg Value.bool hbB)) rfl ?_
          refine ODS.pure rfl rfl (fun _ => rfl) rfl ?_
          refine ODS.pure rfl rfl (fun _ => rfl) rfl ?_
          refine ODS.pure rfl rfl (fun _ => rfl) rfl ?_
          refine ODS.atT (j := i) hmT hB rfl rfl rfl rfl rfl rfl rfl (fun r2 o0 row0 cs0 m2 c2 k2 => ?_)
          refine ⟨_, rfl, ?_⟩
          refine ODS.read rfl rfl (e_loadm (by simp [m2]) c2 rfl rfl (part_agg rfl rfl (k2 _ (things_cut (huO hB).1)))) rfl ?_
          refine ODS.pure rfl rfl (fun _ => rfl) rfl ?_
          refine ODS.pure rfl rfl (fun _ => rfl) rfl ?_
          refine ODS.pure rfl rfl (fun _ => rfl) rfl ?_
          refine ODS.atT (j := i) hmT hB rfl rfl rfl rfl rfl rfl rfl (fun r1 o1 rowq cs1 m3 c3 k3 => ?_)
          refine ⟨_, rfl, ?_⟩
          refine ODS.read rfl rfl (e_loadm (by simp [m3]) c3 rfl rfl (part_agg rfl rfl (k3 _ (things_cut (huO hB).1)))) rfl ?_
          refine ODS.pure rfl rfl (fun _ => rfl) rfl ?_
          refine ODS.call rfl rfl (fun _ => rfl) ((CS.sub (Sub.pulls [1] rfl) (ask_ct (us[i]'(by omega)) (huO hB).2 (fun p hp => by simp [hp]) hvq (by have := hsq.1; omega))).mono ?_)
          rintro v' L3 ⟨rfl, wq, rfl, hwq⟩
          refine ⟨_, rfl, Keep.cons rfl (e_loadm (by simp [m3]) c3 rfl rfl (part_agg rfl rfl (k3 _ (things_cut (huO hB).1)))) (Keep.gone rfl Keep.nil), ?_⟩
          refine ODS.call rfl rfl (fun _ => rfl) ((CS.sub (Sub.pulls [4] rfl) (asked_ct (us[i]'(by omega)) (huO hB).2 (fun p hp => by simp [hp]) hvy hsq.2 (by have := hsq.1; omega))).mono ?_)
          rintro v' L3 ⟨rfl, wy, rfl, hwy⟩
          refine ⟨_, rfl, Keep.gone rfl (Keep.gone rfl Keep.nil), ?_⟩
          refine ODS.pure rfl rfl (e_is (e_neTold (p := (askS (us[i]'(by omega)) sq).1) (q := (askS (us[i]'(by omega)) sq).1) rfl rfl rfl) (congrArg Value.bool (show (!decide ((askS (us[i]'(by omega)) sq).1 = (askS (us[i]'(by omega)) sq).1)) = false by simp))) rfl ?_
          refine ODS.pure rfl rfl (fun _ => rfl) rfl ?_
          refine ODS.pure rfl rfl (fun _ => rfl) rfl ?_
          refine ODS.nil ?_
          refine LS.cond rfl (fun hc => by cases hc) (fun hc => ?_)
          refine LS.sub (Sub.pulls [0, 4, 4, 3, 4] rfl) ?_
          refine LS.skip ?_
          exact ⟨sp, (askS (us[i]'(by omega)) sq).2, hsp, askS_ok hsq, ⟨vp, wq, vx, wy, rfl, hvp, hwq, hvx, hwy⟩, rfl⟩
        · have hbB : (!ileB (nm : Int) (i : Int)) = false := by rw [ileB_eq]; simp; omega
          repeat refine LS.seq ?_
          refine LS.drawn noGo mixed [(0, false), (1, false), (2, false), (3, false), (4, false), (5, false), (6, false), (7, false), (8, false), (9, false), (11, false), (12, false), (13, false), (14, false), (15, false), (10, true), (16, true), (17, false), (18, false), (19, false), (20, false), (21, false), (22, false), (23, false), (24, false), (25, false), (26, false), (27, false), (28, false), (29, false), (31, false), (32, false), (33, false), (34, false), (35, false), (30, true), (36, true), (37, false), (38, false), (39, false)] rfl rfl (by kernel_rfl) ?_
          refine ODS.pure rfl rfl (fun _ => rfl) rfl ?_
          refine ODS.pure rfl rfl (fun _ => rfl) rfl ?_
          refine ODS.pure rfl rfl (e_len hl.sv rfl rfl rfl rfl rfl) rfl ?_
          refine ODS.pure rfl rfl (e_is (fun _ => rfl) (congrArg Value.bool hbA)) rfl ?_
          refine ODS.pure rfl rfl (fun _ => rfl) rfl ?_
          refine ODS.skip rfl rfl rfl ?_
          refine ODS.skip rfl rfl rfl ?_
          refine ODS.skip rfl rfl rfl ?_
          refine ODS.skip rfl rfl rfl ?_
          refine ODS.skip rfl rfl rfl ?_
          refine ODS.skip rfl rfl rfl ?_
          refine ODS.skip rfl rfl rfl ?_
          refine ODS.skip rfl rfl rfl ?_
          refine ODS.skip rfl rfl rfl ?_
          refine ODS.skip rfl rfl rfl ?_
          refine ODS.skip rfl rfl rfl ?_
          refine ODS.skip rfl rfl rfl ?_
          refine ODS.skip rfl rfl rfl ?_
          refine ODS.pure rfl rfl (fun _ => rfl) rfl ?_
          refine ODS.pure rfl rfl (fun _ => rfl) rfl ?_
          refine ODS.pure rfl rfl (fun _ => rfl) rfl ?_
          refine ODS.pure rfl rfl (fun _ => rfl) rfl ?_
          refine ODS.pure rfl rfl (e_len hm.sv rfl rfl rfl rfl rfl) rfl ?_
          refine ODS.pure rfl rfl (e_is (fun _ => rfl) (congrArg Value.bool hbB)) rfl ?_
          refine ODS.pure rfl rfl (fun _ => rfl) rfl ?_
          refine ODS.skip rfl rfl rfl ?_
          refine ODS.skip rfl rfl rfl ?_
          refine ODS.skip rfl rfl rfl ?_
          refine ODS.skip rfl rfl rfl ?_
          refine ODS.skip rfl rfl rfl ?_
          refine ODS.skip rfl rfl rfl ?_
          refine ODS.skip rfl rfl rfl ?_
          refine ODS.skip rfl rfl rfl ?_
          refine ODS.skip rfl rfl rfl ?_
          refine ODS.skip rfl rfl rfl ?_
          refine ODS.skip rfl rfl rfl ?_
          refine ODS.skip rfl rfl rfl ?_
          refine ODS.skip rfl rfl rfl ?_
          refine ODS.pure rfl rfl (fun _ => rfl) rfl ?_
          refine ODS.pure rfl rfl (fun _ => rfl) rfl ?_
          refine ODS.nil ?_
          refine LS.cond rfl (fun hc => by cases hc) (fun hc => ?_)
          refine LS.sub (Sub.pulls [4, 4, 4, 4, 4] rfl) ?_
          refine LS.skip ?_
          exact ⟨sp, sq, hsp, hsq, ⟨vp, vq, vx, vy, rfl, hvp, hvq, hvx, hvy⟩, rfl⟩
    clear hsp hsq hvp hvq hvx hvy
    rintro a L ⟨sp, sq, hsp, hsq, ⟨vp, vq, vx, vy, rfl, hvp, hvq, hvx, hvy⟩, rfl⟩
    repeat refine LS.seq ?_
    refine LS.region rfl ?_
    refine OS.pure rfl (fun _ => rfl) rfl ?_
    refine OS.call noGo rfl (fun _ => rfl) ((OK_ct).mono ?_)
    rintro v' L3 ⟨rfl, rfl⟩
    refine ⟨_, rfl, ?_⟩
    refine OS.pure rfl (fun _ => rfl) rfl ?_
    refine OS.call noGo rfl (fun _ => rfl) ((CS.sub (Sub.pulls [3] rfl) rOK_ct).mono ?_)
    rintro v' L3 ⟨rfl, rfl⟩
    refine ⟨_, rfl, ?_⟩
    refine OS.pure rfl (e_is (fun _ => rfl) (congrArg Value.bool (show (!((!sp.2) == (!sp.2))) = false by simp))) rfl ?_
    refine OS.pure rfl (fun _ => rfl) rfl ?_
    refine OS.pure rfl (fun _ => rfl) rfl ?_
    refine OS.call noGo rfl (fun _ => rfl) ((CS.sub (Sub.pulls [1] rfl) (Left_ct (hvp.mono fun p hp => by simp [hp]))).mono ?_)
    rintro v' L3 ⟨rfl, rfl⟩
    refine ⟨_, rfl, ?_⟩
    refine OS.pure rfl (fun _ => rfl) rfl ?_
    refine OS.call noGo rfl (fun _ => rfl) ((CS.sub (Sub.pulls [1] rfl) (rLeft_ct (hvx.mono fun p hp => by simp [hp]))).mono ?_)
    rintro v' L3 ⟨rfl, rfl⟩
    refine ⟨_, rfl, ?_⟩
    refine OS.pure rfl (e_is (fun _ => rfl) (congrArg Value.bool (show (!ieqB ((sp.1.length : Nat) : Int) ((sp.1.length : Nat) : Int)) = false by rw [ieqB_eq]; simp))) rfl ?_
    refine OS.pure rfl (fun _ => rfl) rfl ?_
    refine OS.pure rfl (fun _ => rfl) rfl ?_
    refine OS.pure rfl (fun _ => rfl) rfl ?_
    refine OS.call noGo rfl (fun _ => rfl) ((CS.sub (Sub.pulls [1] rfl) (Done_ct (hvp.mono fun p hp => by simp [hp]))).mono ?_)
    rintro v' L3 ⟨rfl, rfl⟩
    refine ⟨_, rfl, ?_⟩
    refine OS.pure rfl (fun _ => rfl) rfl ?_
    refine OS.call noGo rfl (fun _ => rfl) ((CS.sub (Sub.pulls [1] rfl) (rDone_ct (hvx.mono fun p hp => by simp [hp]))).mono ?_)
    rintro v' L3 ⟨rfl, rfl⟩
    refine ⟨_, rfl, ?_⟩
    refine OS.pure rfl (e_is (fun _ => rfl) (congrArg Value.bool (show (!((!sp.2 && sp.1.isEmpty) == (!sp.2 && sp.1.isEmpty))) = false by simp))) rfl ?_
    refine OS.pure rfl (fun _ => rfl) rfl ?_
    refine OS.pure rfl (fun _ => rfl) rfl ?_
    refine OS.pure rfl (fun _ => rfl) rfl ?_
    refine OS.call noGo rfl (fun _ => rfl) ((CS.sub (Sub.pulls [2] rfl) OK_ct).mono ?_)
    rintro v' L3 ⟨rfl, rfl⟩
    refine ⟨_, rfl, ?_⟩
    refine OS.pure rfl (fun _ => rfl) rfl ?_
    refine OS.call noGo rfl (fun _ => rfl) ((CS.sub (Sub.pulls [4] rfl) rOK_ct).mono ?_)
    rintro v' L3 ⟨rfl, rfl⟩
    refine ⟨_, rfl, ?_⟩
    refine OS.pure rfl (e_is (fun _ => rfl) (congrArg Value.bool (show (!((!sq.2) == (!sq.2))) = false by simp))) rfl ?_
    refine OS.pure rfl (fun _ => rfl) rfl ?_
    refine OS.pure rfl (fun _ => rfl) rfl ?_
    refine OS.pure rfl (fun _ => rfl) rfl ?_
    refine OS.call noGo rfl (fun _ => rfl) ((CS.sub (Sub.pulls [1] rfl) (Left_ct (hvq.mono fun p hp => by simp [hp]))).mono ?_)
    rintro v' L3 ⟨rfl, rfl⟩
    refine ⟨_, rfl, ?_⟩
    refine OS.pure rfl (fun _ => rfl) rfl ?_
    refine OS.call noGo rfl (fun _ => rfl) ((CS.sub (Sub.pulls [1] rfl) (rLeft_ct (hvy.mono fun p hp => by simp [hp]))).mono ?_)
    rintro v' L3 ⟨rfl, rfl⟩
    refine ⟨_, rfl, ?_⟩
    refine OS.pure rfl (e_is (fun _ => rfl) (congrArg Value.bool (show (!ieqB ((sq.1.length : Nat) : Int) ((sq.1.length : Nat) : Int)) = false by rw [ieqB_eq]; simp))) rfl ?_
    refine OS.pure rfl (fun _ => rfl) rfl ?_
    refine OS.pure rfl (fun _ => rfl) rfl ?_
    refine OS.pure rfl (fun _ => rfl) rfl ?_
    refine OS.call noGo rfl (fun _ => rfl) ((CS.sub (Sub.pulls [1] rfl) (Done_ct (hvq.mono fun p hp => by simp [hp]))).mono ?_)
    rintro v' L3 ⟨rfl, rfl⟩
    refine ⟨_, rfl, ?_⟩
    refine OS.pure rfl (fun _ => rfl) rfl ?_
    refine OS.call noGo rfl (fun _ => rfl) ((CS.sub (Sub.pulls [1] rfl) (rDone_ct (hvy.mono fun p hp => by simp [hp]))).mono ?_)
    rintro v' L3 ⟨rfl, rfl⟩
    refine ⟨_, rfl, ?_⟩
    refine OS.pure rfl (e_is (fun _ => rfl) (congrArg Value.bool (show (!((!sq.2 && sq.1.isEmpty) == (!sq.2 && sq.1.isEmpty))) = false by simp))) rfl ?_
    refine OS.pure rfl (fun _ => rfl) rfl ?_
    refine OS.sub (Sub.pulls [0, 2, 4, 3, 4] rfl) ?_
    refine OS.nil ?_
    refine LS.cond rfl (fun hc => by cases hc) (fun hc => ?_)
    refine LS.skip ?_
    repeat refine LS.seq ?_
    refine LS.region rfl ?_
    refine OS.pure rfl (fun _ => rfl) rfl ?_
    refine OS.pure rfl (e_add rfl rfl rfl (in_i64 (by omega) (by omega))) rfl ?_
    refine OS.pure rfl (fun _ => rfl) rfl ?_
    refine OS.nil ?_
    exact ⟨nl + nm - (i + 1), by omega, i + 1, sp, sq, C, rfl, by omega, hsp, hsq, hC, ⟨vp, vq, vx, vy, rfl, hvp, hvq, hvx, hvy⟩, rfl⟩
  · have hb1 : (!ileB (nl : Int) (i : Int)) = false := by rw [ileB_eq]; simp; omega
    have hb2 : (!ileB (nm : Int) (i : Int)) = false := by rw [ileB_eq]; simp; omega
    repeat refine LS.seq ?_
    refine LS.region rfl ?_
    refine OS.pure rfl (fun _ => rfl) rfl ?_
    refine OS.pure rfl (fun _ => rfl) rfl ?_
    refine OS.pure rfl (e_len hl.sv rfl rfl rfl rfl rfl) rfl ?_
    refine OS.pure rfl (e_is (fun _ => rfl) (congrArg Value.bool hb1)) rfl ?_
    refine OS.pure rfl (fun _ => rfl) rfl ?_
    refine OS.pure rfl (fun _ => rfl) rfl ?_
    refine OS.pure rfl (fun _ => rfl) rfl ?_
    refine OS.pure rfl (e_len hm.sv rfl rfl rfl rfl rfl) rfl ?_
    refine OS.pure rfl (e_is (fun _ => rfl) (congrArg Value.bool hb2)) rfl ?_
    refine OS.pure rfl (fun _ => rfl) rfl ?_
    refine OS.nil ?_
    refine LS.cond rfl (fun hc => by cases hc) (fun hc => ?_)
    refine LS.exit ?_
    obtain ⟨vp, vq, vx, vy, rfl, hvp, hvq, hvx, hvy⟩ := hTS
    repeat refine LS.seq ?_
    refine LS.region rfl ?_
    refine OS.pure rfl (fun _ => rfl) rfl ?_
    refine OS.call noGo rfl (fun _ => rfl) ((Done_ct (hvp.mono fun p hp => by simp [hp])).mono ?_)
    rintro v' L3 ⟨rfl, rfl⟩
    refine ⟨_, rfl, ?_⟩
    refine OS.pure rfl (fun _ => rfl) rfl ?_
    refine OS.call noGo rfl (fun _ => rfl) ((CS.sub (Sub.pulls [3] rfl) (rDone_ct (hvx.mono fun p hp => by simp [hp]))).mono ?_)
    rintro v' L3 ⟨rfl, rfl⟩
    refine ⟨_, rfl, ?_⟩
    refine OS.pure rfl (e_is (fun _ => rfl) (congrArg Value.bool (show ((!sp.2 && sp.1.isEmpty) == (!sp.2 && sp.1.isEmpty)) = true by simp))) rfl ?_
    refine OS.pure rfl (fun _ => rfl) rfl ?_
    refine OS.pure rfl (fun _ => rfl) rfl ?_
    refine OS.call noGo rfl (fun _ => rfl) ((CS.sub (Sub.pulls [2] rfl) (Left_ct (hvq.mono fun p hp => by simp [hp]))).mono ?_)
    rintro v' L3 ⟨rfl, rfl⟩
    refine ⟨_, rfl, ?_⟩
    refine OS.pure rfl (fun _ => rfl) rfl ?_
    refine OS.call noGo rfl (fun _ => rfl) ((CS.sub (Sub.pulls [4] rfl) (rLeft_ct (hvy.mono fun p hp => by simp [hp]))).mono ?_)
    rintro v' L3 ⟨rfl, rfl⟩
    refine ⟨_, rfl, ?_⟩
    refine OS.pure rfl (e_is (fun _ => rfl) (congrArg Value.bool (show ieqB ((sq.1.length : Nat) : Int) ((sq.1.length : Nat) : Int) = true by rw [ieqB_eq]; simp))) rfl ?_
    refine OS.pure rfl (fun _ => rfl) rfl ?_
    refine OS.pure rfl (fun _ => rfl) rfl ?_
    refine OS.nil ?_
    refine LS.ret ⟨_, fun _ _ => rfl, ?_⟩
    rfl
end Go.Proofs.Ytnfenpkkhkdkhaa.T

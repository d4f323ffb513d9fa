/- bastionlaw01.CodeLays answers true: each list is the document's, and stays so. -/
import Derived.Test.YtnfenpkkhkdkhaaLc
namespace Go.Proofs.Ytnfenpkkhkdkhaa
open Go.Am
set_option linter.unusedVariables false
set_option maxRecDepth 20000

theorem bytes_allFlat : ∀ bs : List UInt8, allFlat (bs.map byteV) = true
  | [] => rfl
  | b :: bs => by simp only [List.map_cons, allFlat]; exact bytes_allFlat bs
theorem things_allFlat : ∀ ts : List Th, allFlat (ts.flatMap Th.cells) = true
  | [] => rfl
  | t :: ts => by simp only [List.flatMap_cons, Th.cells, List.cons_append, List.nil_append, allFlat]; exact things_allFlat ts

/-- How much things weigh. -/
def weigh : List Th → Nat
  | [] => 0
  | t :: ts => 20 + t.s.data.toList.length + weigh ts
theorem weigh_snoc (ts : List Th) (t : Th) : weigh (ts ++ [t]) = weigh ts + (20 + t.s.data.toList.length) := by
  induction ts with
  | nil => simp [weigh]
  | cons x xs ih => simp only [List.cons_append, weigh, ih]; omega
theorem take_snoc {α : Type} {ts : List α} {i : Nat} {t : α} (h : ts[i]? = some t) : ts.take (i + 1) = ts.take i ++ [t] := by rw [List.take_add_one, h]; rfl
theorem weigh_take (ts : List Th) (i : Nat) : weigh (ts.take i) ≤ weigh ts := by
  induction ts generalizing i with
  | nil => simp [weigh]
  | cons x xs ih => cases i with
    | zero => simp [weigh]
    | succ i => simp only [List.take_succ_cons, weigh]; have := ih i; omega
theorem weigh_len (ts : List Th) : 20 * ts.length ≤ weigh ts := by
  induction ts with
  | nil => simp [weigh]
  | cons x xs ih => simp only [List.length_cons, weigh]; omega
theorem weigh_mem {ts : List Th} {t : Th} (h : t ∈ ts) : t.s.data.toList.length ≤ weigh ts := by
  induction ts with
  | nil => cases h
  | cons x xs ih =>
    simp only [weigh]
    rcases List.mem_cons.1 h with rfl | h
    · omega
    · have := ih h; omega
theorem things_cut {ts : List Th} {i : Nat} {t : Th} (h : ts[i]? = some t) : cut (ts.flatMap Th.cells) (i * 3) 3 = some t.cells := by
  have hlt : i < ts.length := (List.getElem?_eq_some_iff.1 h).1
  rw [cut_of (by rw [flat_len]; omega)]
  congr 1
  apply List.ext_getElem?
  intro j
  rw [List.getElem?_take]
  by_cases hj : j < 3
  · rw [if_pos hj, List.getElem?_drop, flat_at ts i j t h hj]
  · rw [if_neg hj, List.getElem?_eq_none (by simp [Th.cells]; omega)]

theorem long_ct {L : RL} {l : Value} {m : Nat} {ts : List Th} (hl : SV 3 L l m (ts.flatMap Th.cells)) (hok : ∀ t ∈ ts, t.ok) (hm : m ≤ 9223372036854775807) :
    CS Try.prog 9 [l] L fun v L' => L' = L ∧ ∃ b, v = .bool b ∧ (b = false → weigh ts < 20000) := by
  have hlen : ts.length = m := by have := hl.len; rw [flat_len] at this; omega
  refine CS.mk (fn := Try.f9) rfl rfl rfl rfl ?_
  repeat refine LS.seq ?_
  refine LS.region rfl ?_
  refine OS.pure rfl (fun _ => rfl) rfl ?_
  refine OS.nil ?_
  repeat refine LS.seq ?_
  refine LS.region rfl ?_
  refine OS.pure rfl (fun _ => rfl) rfl ?_
  refine OS.nil ?_
  repeat refine LS.seq ?_
  refine LS.region rfl ?_
  refine OS.pure rfl (fun _ => rfl) rfl ?_
  refine OS.nil ?_
  repeat refine LS.seq ?_
  refine LS.block ?_
  refine LS.loop (fun q a L' => ∃ i acc x1 x2 x3 x4 x5 x6 x7 x8 x9 x10 x11 x12 x13 x14 x15 x16 x17 x18 x19 x20 x21 x22, q = m - i ∧ i ≤ m ∧ L' = L ∧ acc = weigh (ts.take i) ∧ acc < 200000000000000 ∧ a = [l, x1, .bool false, .int .i64 (acc : Nat), .int .i64 (i : Nat), x2, x3, x4, x5, x6, x7, x8, x9, x10, x11, x12, x13, x14, x15, x16, x17, x18, x19, x20, x21, x22]) (n := m) ⟨0, 0, _, _, _, _, _, _, _, _, _, _, _, _, _, _, _, _, _, _, _, _, _, _, rfl, by omega, rfl, rfl, by omega, rfl⟩ ?_
  rintro q a L' ⟨i, acc, x1, x2, x3, x4, x5, x6, x7, x8, x9, x10, x11, x12, x13, x14, x15, x16, x17, x18, x19, x20, x21, x22, rfl, hi, rfl, hacc, hsmall, rfl⟩
  by_cases hin : i < m
  · have hb : (!ileB (m : Int) (i : Int)) = true := by rw [ileB_eq]; simp; omega
    repeat refine LS.seq ?_
    refine LS.region rfl ?_
    refine OS.pure rfl (fun _ => rfl) rfl ?_
    refine OS.pure rfl (fun _ => rfl) rfl ?_
    refine OS.pure rfl (e_len hl rfl rfl rfl rfl rfl) rfl ?_
    refine OS.pure rfl (e_is (fun _ => rfl) (congrArg Value.bool hb)) rfl ?_
    refine OS.pure rfl (fun _ => rfl) rfl ?_
    refine OS.pure rfl (fun _ => rfl) rfl ?_
    refine OS.pure rfl (fun _ => rfl) rfl ?_
    refine OS.pure rfl (fun _ => rfl) rfl ?_
    refine OS.nil ?_
    refine LS.cond (b := !ileB 20000 (acc : Int)) rfl (fun hc => ?_) (fun hc => ?_)
    · have hc := lt_of hc
      have ht : ts[i]? = some ts[i] := List.getElem?_eq_getElem (by omega)
      have hto := hok ts[i] (List.getElem_mem (by omega))
      have hts : ts[i].s.data.toList.length ≤ 140737488351232 := hto.2.2
      refine LS.skip ?_
      repeat refine LS.seq ?_
      refine LS.block ?_
      repeat refine LS.seq ?_
      refine LS.region rfl ?_
      refine OS.pure rfl (fun _ => rfl) rfl ?_
      refine OS.pure rfl (e_add rfl rfl rfl (in_i64 (by omega) (by omega))) rfl ?_
      refine OS.pure rfl (fun _ => rfl) rfl ?_
      refine OS.pure rfl (fun _ => rfl) rfl ?_
      refine OS.at (j := i) hl hin rfl rfl rfl rfl rfl rfl (fun r0 o0 row0 cs0 m0 c0 g0 _ => ?_)
      refine ⟨_, rfl, ?_⟩
      refine OS.pure rfl (fun _ => rfl) rfl ?_
      refine OS.read rfl (e_loadm m0 c0 rfl rfl (part_one rfl (g0 2 (.string ts[i].s) (by omega) (by rw [flat_at ts i 2 _ ht (by omega)]; rfl)))) rfl ?_
      refine OS.pure rfl (fun _ => rfl) rfl ?_
      refine OS.pure rfl (e_add (n := (ts[i].s.data.toList.length : Nat)) rfl rfl rfl (in_i64 (by omega) (by omega))) rfl ?_
      refine OS.pure rfl (fun _ => rfl) rfl ?_
      refine OS.nil ?_
      repeat refine LS.seq ?_
      refine LS.region rfl ?_
      refine OS.pure rfl (fun _ => rfl) rfl ?_
      refine OS.pure rfl (e_add rfl rfl rfl (in_i64 (by omega) (by omega))) rfl ?_
      refine OS.pure rfl (fun _ => rfl) rfl ?_
      refine OS.nil ?_
      refine ⟨m - (i + 1), by omega, i + 1, acc + 20 + ts[i].s.data.toList.length, _, _, _, _, _, _, _, _, _, _, _, _, _, _, _, _, _, _, _, _, _, _, rfl, by omega, rfl, ?_, by omega, rfl⟩
      rw [take_snoc ht, weigh_snoc]; omega
    · have hc := nlt_of hc
      refine LS.exit ?_
      repeat refine LS.seq ?_
      refine LS.region rfl ?_
      refine OS.pure rfl (fun _ => rfl) rfl ?_
      refine OS.pure rfl (fun _ => rfl) rfl ?_
      refine OS.pure rfl (fun _ => rfl) rfl ?_
      refine OS.nil ?_
      refine LS.ret ⟨_, fun _ _ => rfl, ?_⟩
      exact ⟨rfl, _, rfl, fun hh => by have := nle_of hh; omega⟩
  · have hb : (!ileB (m : Int) (i : Int)) = false := by rw [ileB_eq]; simp; omega
    have hie : i = m := by omega
    repeat refine LS.seq ?_
    refine LS.region rfl ?_
    refine OS.pure rfl (fun _ => rfl) rfl ?_
    refine OS.pure rfl (fun _ => rfl) rfl ?_
    refine OS.pure rfl (e_len hl rfl rfl rfl rfl rfl) rfl ?_
    refine OS.pure rfl (e_is (fun _ => rfl) (congrArg Value.bool hb)) rfl ?_
    refine OS.pure rfl (fun _ => rfl) rfl ?_
    refine OS.skip rfl rfl ?_
    refine OS.skip rfl rfl ?_
    refine OS.pure rfl (fun _ => rfl) rfl ?_
    refine OS.nil ?_
    refine LS.cond rfl (fun hc => by cases hc) (fun hc => ?_)
    refine LS.exit ?_
    repeat refine LS.seq ?_
    refine LS.region rfl ?_
    refine OS.pure rfl (fun _ => rfl) rfl ?_
    refine OS.pure rfl (fun _ => rfl) rfl ?_
    refine OS.pure rfl (fun _ => rfl) rfl ?_
    refine OS.nil ?_
    refine LS.ret ⟨_, fun _ _ => rfl, ?_⟩
    rw [hie, List.take_of_length_le (by omega)] at hacc
    exact ⟨rfl, _, rfl, fun hh => by have := nle_of hh; omega⟩

theorem enc_len (t : Th) (ht : t.ok) : t.enc.length ≤ 20 + t.s.data.toList.length := by
  have h1 : (grp (zig t.n)).length ≤ 10 := grp_len (by omega) (by have := zig_lt ht.1 ht.2.1; omega)
  have h2 : ∀ m, (cnt m).length ≤ 10 := fun m => by
    unfold cnt
    split
    · exact grp_len (by omega) (by omega)
    · simp
  have h3 := h2 t.n
  have h4 := h2 t.s.data.toList.length
  unfold Th.enc
  split
  · omega
  split
  · omega
  split
  · rw [List.length_append]; omega
  · simp; omega

/-- The bytes behind the first i things. -/
def laidAt (bs : List UInt8) (ts : List Th) (i : Nat) : List UInt8 := bs ++ (ts.take i).flatMap Th.enc
theorem laidAt_succ {bs : List UInt8} {ts : List Th} {i : Nat} {t : Th} (h : ts[i]? = some t) : laidAt bs ts (i + 1) = laidAt bs ts i ++ t.enc := by
  unfold laidAt
  rw [take_snoc h]; simp
theorem laidAt_len {bs : List UInt8} {ts : List Th} (hok : ∀ t ∈ ts, t.ok) (i : Nat) : (laidAt bs ts i).length ≤ bs.length + weigh ts := by
  have key : ∀ us : List Th, (∀ t ∈ us, t.ok) → (us.flatMap Th.enc).length ≤ weigh us := by
    intro us
    induction us with
    | nil => intro _; simp [weigh]
    | cons x xs ih =>
      intro h
      have := ih fun t ht => h t (by simp [ht])
      have := enc_len x (h x (by simp))
      simp only [List.flatMap_cons, List.length_append, weigh]; omega
  have := key (ts.take i) fun t ht => hok t (List.mem_of_mem_take ht)
  have := weigh_take ts i
  simp only [laidAt, List.length_append]; omega

/-- Of the lists that were laid: where they stand, each with its bytes. -/
def Olds (T : RL) (B : Nat → List UInt8) (xs : List Value) : Prop := ∀ j, j < xs.length → ∃ r, xs[j]? = some (.slice (some ⟨r, 0, none⟩) (B j).length openCap) ∧ (r, .cells 5 (byteCells (B j))) ∈ T
def texts (B : Nat → List UInt8) (n : Nat) : List Value := (List.range n).map fun j => .string ⟨⟨B j⟩⟩
theorem texts_get {B : Nat → List UInt8} {n j : Nat} (h : j < n) : (texts B n)[j]? = some (.string ⟨⟨B j⟩⟩) := by simp [texts, h]
theorem texts_one {B : Nat → List UInt8} {n : Nat} : allOne (texts B n) = true := by
  unfold texts
  induction List.range n with
  | nil => rfl
  | cons x xs ih => exact ih
theorem texts_succ {B : Nat → List UInt8} {n : Nat} : texts B (n + 1) = texts B n ++ [.string ⟨⟨B n⟩⟩] := by simp [texts, List.range_succ]

theorem gv_tail {e : TypeId} {sz n : Nat} {T L₂ : RL} {p1 pN pA pT : Nat × ARow} {v : Value} {cs : List Value} (g : GV e sz (p1 :: pN :: pA :: pT :: T) v n cs L₂) : ∃ T', Sub (p1 :: pA :: pT :: T') L₂ ∧ SV sz T' v n cs ∧ pN ∈ T' ∧ ∀ p, p ∈ T → p ∈ T' := by
  rcases g with ⟨rfl, rfl, rfl, rfl⟩ | ⟨r, rfl, hl, rfl⟩
  · exact ⟨pN :: T, Sub.pulls [3, 3, 2] rfl, .inl ⟨rfl, rfl, rfl⟩, by simp, fun p hp => by simp [hp]⟩
  · exact ⟨(r, .cells e cs) :: pN :: T, Sub.pulls [4, 4, 3] rfl, SV.row (e := e) (by simp) hl, by simp, fun p hp => by simp [hp]⟩

set_option maxHeartbeats 2000000 in
theorem lays_ct {L : RL} {b l : Value} {n m : Nat} {bs : List UInt8} {ts : List Th} (hb : RO 1 L b n (byteCells bs)) (hl : RO 3 L l m (ts.flatMap Th.cells)) (hok : ∀ t ∈ ts, t.ok) (hn : n ≤ 9223372036854775807) (hm : m ≤ 9223372036854775807) :
    CS Try.prog 3 [b, l] L fun v _ => v = .bool true := by
  have hlen : ts.length = m := by have := hl.sv.len; rw [flat_len] at this; omega
  have hbl : bs.length = n := by have := hb.sv.len; simpa [byteCells] using this
  refine CS.mk (fn := Try.f3) rfl rfl rfl rfl ?_
  repeat refine LS.seq ?_
  refine LS.region rfl ?_
  refine OS.pure rfl (fun _ => rfl) rfl ?_
  refine OS.nil ?_
  by_cases hbig : n > 5000
  · have hb0 : (!ileB (n : Int) 5000) = true := by rw [ileB_eq]; simp; omega
    repeat refine LS.seq ?_
    refine LS.region rfl ?_
    refine OS.pure rfl (fun _ => rfl) rfl ?_
    refine OS.pure rfl (e_len hb.sv rfl rfl rfl rfl rfl) rfl ?_
    refine OS.pure rfl (e_is (fun _ => rfl) (congrArg Value.bool hb0)) rfl ?_
    refine OS.pure rfl (fun _ => rfl) rfl ?_
    refine OS.skip rfl rfl ?_
    refine OS.skip rfl rfl ?_
    refine OS.pure rfl (fun _ => rfl) rfl ?_
    refine OS.nil ?_
    refine LS.cond rfl (fun hc => ?_) (fun hc => by cases hc)
    repeat refine LS.seq ?_
    refine LS.region rfl ?_
    refine OS.pure rfl (fun _ => rfl) rfl ?_
    refine OS.nil ?_
    refine LS.ret ⟨_, fun _ _ => rfl, ?_⟩
    rfl
  have hb0 : (!ileB (n : Int) 5000) = false := by rw [ileB_eq]; simp; omega
  repeat refine LS.seq ?_
  refine LS.region rfl ?_
  refine OS.pure rfl (fun _ => rfl) rfl ?_
  refine OS.pure rfl (e_len hb.sv rfl rfl rfl rfl rfl) rfl ?_
  refine OS.pure rfl (e_is (fun _ => rfl) (congrArg Value.bool hb0)) rfl ?_
  refine OS.pure rfl (fun _ => rfl) rfl ?_
  refine OS.pure rfl (fun _ => rfl) rfl ?_
  refine OS.call noGo rfl (fun _ => rfl) ((long_ct hl.sv hok hm).mono ?_)
  rintro v L' ⟨rfl, b0, rfl, hw⟩
  refine ⟨_, rfl, ?_⟩
  refine OS.pure rfl (fun _ => rfl) rfl ?_
  refine OS.nil ?_
  cases b0 with
  | true =>
    refine LS.cond rfl (fun hc => ?_) (fun hc => by cases hc)
    repeat refine LS.seq ?_
    refine LS.region rfl ?_
    refine OS.pure rfl (fun _ => rfl) rfl ?_
    refine OS.nil ?_
    refine LS.ret ⟨_, fun _ _ => rfl, ?_⟩
    rfl
  | false =>
  have hw := hw rfl
  refine LS.cond rfl (fun hc => by cases hc) (fun hc => ?_)
  refine LS.skip ?_
  have hm1 := weigh_len ts
  let B := laidAt bs ts
  have hB : ∀ i, (B i).length ≤ 25000 := fun i => by have := laidAt_len (bs := bs) hok i; show (laidAt bs ts i).length ≤ _; omega
  have hB0 : B 0 = bs := by show laidAt bs ts 0 = bs; simp [laidAt]
  repeat refine LS.seq ?_
  refine LS.region rfl ?_
  refine OS.pure rfl (fun _ => rfl) rfl ?_
  refine OS.pure rfl (e_len hb.sv rfl rfl rfl rfl rfl) rfl ?_
  refine OS.pure rfl (e_add rfl rfl rfl (in_i64 (by omega) (by omega))) rfl ?_
  refine OS.fresh rfl (e_make (l := 0) (c := n + 64) (e := 5) (sz := 1) (bts := 1) (zs := [.int .u8 0]) rfl rfl rfl rfl (by omega) (by omega) (by omega)) (fun _ => rfl) (fun r1 => ?_)
  refine OS.opened 23 0 (sz := 1) rfl rfl rfl (by rw [repL_len]; simp) (by unfold openCap; omega) rfl ?_
  refine OS.pure rfl (fun _ => rfl) rfl ?_
  refine OS.fresh rfl (e_appendSV 0 (sz := 1) (bts := 1) (old := []) hb.sv.cons (byteCells_one bs) rfl rfl rfl (by omega) (by omega) rfl cut_zero rfl) (fun _ => rfl) (fun rN => ?_)
  refine OS.pure rfl (fun _ => rfl) rfl ?_
  refine OS.nil ?_
  repeat refine LS.seq ?_
  refine LS.region rfl ?_
  refine OS.fresh rfl (e_new (fun _ => rfl) rfl) (fun _ => rfl) (fun r2 => ?_)
  refine OS.opened 26 0 (sz := 1) rfl rfl rfl (by simp) (by decide) rfl ?_
  refine OS.pure rfl (fun _ => rfl) rfl ?_
  refine OS.fresh rfl (e_appendSV 0 (sz := 1) (bts := 1) (old := []) hb.sv.cons.cons (byteCells_one bs) rfl rfl rfl (by omega) (by omega) rfl cut_zero rfl) (fun _ => rfl) (fun rW => ?_)
  refine OS.pure rfl (fun _ => rfl) rfl ?_
  refine OS.nil ?_
  repeat refine LS.seq ?_
  refine LS.region rfl ?_
  refine OS.pure rfl (fun _ => rfl) rfl ?_
  refine OS.fresh rfl (e_new (fun _ => rfl) rfl) (fun _ => rfl) (fun rA => ?_)
  refine OS.opened 30 0 (sz := 1) rfl rfl rfl (by simp) (by decide) rfl ?_
  refine OS.pure rfl (fun _ => rfl) rfl ?_
  refine OS.nil ?_
  repeat refine LS.seq ?_
  refine LS.region rfl ?_
  refine OS.pure rfl (fun _ => rfl) rfl ?_
  refine OS.read rfl (e_textSV (bs := bs) (n := 0 + n) (SV.row (e := 5) (by simp) (by rw [byteCells_len]; omega)) rfl rfl rfl rfl rfl) rfl ?_
  refine OS.fresh rfl (e_new (fun _ => rfl) rfl) (fun _ => rfl) (fun rT => ?_)
  refine OS.opened 33 0 (sz := 1) rfl rfl rfl (by simp) (by decide) rfl ?_
  refine OS.pure rfl (fun _ => rfl) rfl ?_
  refine OS.nil ?_
  repeat refine LS.seq ?_
  refine LS.region rfl ?_
  refine OS.pure rfl (fun _ => rfl) rfl ?_
  refine OS.sub (Sub.pulls [1, 3] rfl) ?_
  refine OS.nil ?_
  have hbT : ∀ {T : RL}, (∀ p, p ∈ L' → p ∈ T) → SV 1 T b n (byteCells bs) := fun h => hb.sv.mono h
  have hlT : ∀ {T : RL}, (∀ p, p ∈ L' → p ∈ T) → SV 3 T l m (ts.flatMap Th.cells) := fun h => hl.sv.mono h
  repeat refine LS.seq ?_
  refine LS.block ?_
  refine LS.loopJ [0, 1, 4, 5, 6, 7, 8, 9] (fun q a L => ∃ i nn rN rA rT T want xs, q = m - i ∧ i ≤ m ∧ (B i).length = nn ∧ xs.length = i ∧ Olds T B xs ∧ SV 1 T want nn (byteCells (B i)) ∧ (∀ p, p ∈ L' → p ∈ T) ∧ L = (rN, .cells 5 (byteCells (B i))) :: (rA, .cells 22 (xs ++ [.slice (some ⟨rN, 0, none⟩) nn openCap])) :: (rT, .cells 9 (texts B (i + 1))) :: T ∧
    a = [b, l, .chan none, .chan none, .bool false, .slice (some ⟨rN, 0, none⟩) nn openCap, want, .slice (some ⟨rA, 0, none⟩) (i + 1) openCap, .slice (some ⟨rT, 0, none⟩) (i + 1) openCap, .int .i64 (i : Nat), .chan none, .chan none, .chan none, .chan none, .chan none, .chan none, .chan none, .chan none, .chan none, .chan none, .chan none, .chan none, .chan none, .chan none, .chan none, .chan none, .chan none, .chan none, .chan none, .chan none, .chan none, .chan none, .chan none, .chan none, .chan none, .chan none, .chan none, .chan none, .chan none, .chan none, .chan none, .chan none, .chan none, .chan none, .chan none, .chan none, .chan none, .chan none, .chan none, .chan none, .chan none, .chan none, .chan none, .chan none, .chan none, .chan none, .chan none, .chan none, .chan none, .chan none, .chan none, .chan none, .chan none, .chan none, .chan none, .chan none, .chan none, .chan none, .chan none, .chan none, .chan none, .chan none, .chan none, .chan none, .chan none, .chan none, .chan none, .chan none, .chan none, .chan none, .chan none, .chan none, .chan none, .chan none, .chan none, .chan none, .chan none, .chan none, .chan none, .chan none, .chan none, .chan none, .chan none, .chan none, .chan none, .chan none, .chan none, .chan none, .chan none, .chan none, .chan none, .chan none, .chan none, .chan none, .chan none, .chan none, .chan none, .chan none, .chan none, .chan none, .chan none, .chan none]) (n := m) rfl
    ⟨0, 0 + n, rN, rA, rT, (rW, .cells 5 (byteCells bs)) :: L', _, [], rfl, by omega, by rw [hB0]; omega, rfl, fun j hj => (by simp at hj), by rw [hB0]; exact SV.row (e := 5) (by simp) (by rw [byteCells_len]; omega), fun p hp => List.mem_cons_of_mem _ hp, by rw [hB0]; simp [texts, hB0], rfl⟩ ?_
  rintro q a L ⟨i, nn, rN, rA, rT, T, want, xs, rfl, hi, hnn, hxs, hold, hwant, hT, rfl, rfl⟩
  have hnb := hB i
  repeat refine LS.seq ?_
  refine LS.region rfl ?_
  refine OS.pure rfl (fun _ => rfl) rfl ?_
  refine OS.pure rfl (fun _ => rfl) rfl ?_
  refine OS.pure rfl (e_len hl.sv rfl rfl rfl rfl rfl) rfl ?_
  refine OS.pure rfl (fun _ => rfl) rfl ?_
  refine OS.nil ?_
  refine LS.cond rfl (fun hc => ?_) (fun hc => ?_)
  · have hc : (i : Int) < m := lt_of hc
    have hin : i < m := by omega
    have ht : ts[i]? = some ts[i] := List.getElem?_eq_getElem (by omega)
    have hto := hok ts[i] (List.getElem_mem (by omega))
    have hts : ts[i].s.data.toList.length ≤ 200000 := by have := weigh_mem (List.getElem_mem (l := ts) (n := i) (by omega)); omega
    have hsucc : B (i + 1) = B i ++ ts[i].enc := laidAt_succ ht
    have hnb1 := hB (i + 1)
    have hnn1 : (B (i + 1)).length = nn + ts[i].enc.length := by rw [hsucc, List.length_append, hnn]
    refine LS.skip ?_
    repeat refine LS.seq ?_
    refine LS.block ?_
    repeat refine LS.seq ?_
    refine LS.region rfl ?_
    refine OS.pure rfl (fun _ => rfl) rfl ?_
    refine OS.pure rfl (fun _ => rfl) rfl ?_
    refine OS.at (j := i) (hlT hT).cons.cons.cons hin rfl rfl rfl rfl rfl rfl (fun r0 o0 row0 cs0 m0 c0 g0 k0 => ?_)
    refine ⟨_, rfl, ?_⟩
    refine OS.read rfl (e_loadm m0 c0 rfl rfl (part_agg rfl rfl (k0 _ (things_cut ht)))) rfl ?_
    refine OS.pure rfl (fun _ => rfl) rfl ?_
    refine OS.call noGo rfl (fun _ => rfl) ((lay_ct ts[i] hto hts (SV.row (e := 5) (r := rN) (sz := 1) (n := nn) (cs := byteCells (B i)) (List.mem_cons_self ..) (by rw [byteCells_len]; omega)) (by omega)).mono ?_)
    rintro v L1 ⟨rN', rfl, rfl⟩
    refine ⟨_, rfl, ?_⟩
    refine OS.pure rfl (fun _ => rfl) rfl ?_
    refine OS.nil ?_
    repeat refine LS.seq ?_
    refine LS.region rfl ?_
    refine OS.pure rfl (fun _ => rfl) rfl ?_
    refine OS.pure rfl (fun _ => rfl) rfl ?_
    refine OS.at (j := i) (hlT hT).cons.cons.cons.cons hin rfl rfl rfl rfl rfl rfl (fun r0 o0 row0 cs0 m0 c0 g0 k0 => ?_)
    refine ⟨_, rfl, ?_⟩
    refine OS.read rfl (e_loadm m0 c0 rfl rfl (part_agg rfl rfl (k0 _ (things_cut ht)))) rfl ?_
    refine OS.pure rfl (fun _ => rfl) rfl ?_
    refine OS.call noGo rfl (fun _ => rfl) ((ref_ct ts[i] hto hts hwant.cons.cons.cons.cons (by omega)).mono ?_)
    rintro want' L2 hg
    obtain ⟨T', hsub, hwant', hN', hTT⟩ := gv_tail hg
    refine ⟨_, rfl, ?_⟩
    refine OS.sub hsub ?_
    refine OS.pure rfl (fun _ => rfl) rfl ?_
    refine OS.nil ?_
    have hT' : ∀ p, p ∈ L' → p ∈ T' := fun p hp => hTT p (hT p hp)
    rw [← hsucc] at hwant'
    repeat refine LS.seq ?_
    refine LS.region rfl ?_
    refine OS.pure rfl (fun _ => rfl) rfl ?_
    refine OS.pure rfl (fun _ => rfl) rfl ?_
    refine OS.fresh rfl (e_new (fun _ => rfl) rfl) (fun _ => rfl) (fun rx => ?_)
    refine OS.fresh rfl (e_appendSV 2 (sz := 1) (bts := 24) (SV.row (sz := 1) (n := 1) (List.mem_cons_self ..) rfl) rfl rfl rfl rfl (by omega) (by omega) rfl (cut_all (by simp; omega)) rfl) (fun _ => rfl) (fun rA' => ?_)
    refine OS.pure rfl (fun _ => rfl) rfl ?_
    refine OS.sub (Sub.drop 1 rfl) ?_
    refine OS.nil ?_
    repeat refine LS.seq ?_
    refine LS.region rfl ?_
    refine OS.pure rfl (fun _ => rfl) rfl ?_
    refine OS.pure rfl (fun _ => rfl) rfl ?_
    refine OS.read rfl (e_textSV hwant'.cons.cons.cons rfl rfl rfl rfl rfl) rfl ?_
    refine OS.fresh rfl (e_new (fun _ => rfl) rfl) (fun _ => rfl) (fun ry => ?_)
    refine OS.fresh rfl (e_appendSV 3 (sz := 1) (bts := 16) (SV.row (sz := 1) (n := 1) (List.mem_cons_self ..) rfl) rfl rfl rfl rfl (by omega) (by omega) rfl (cut_all (by simp [texts])) rfl) (fun _ => rfl) (fun rT' => ?_)
    refine OS.pure rfl (fun _ => rfl) rfl ?_
    refine OS.sub (Sub.drop 1 rfl) ?_
    refine OS.sub (Sub.pulls [1, 2] rfl) ?_
    refine OS.nil ?_
    repeat refine LS.seq ?_
    refine LS.region rfl ?_
    refine OS.pure rfl (fun _ => rfl) rfl ?_
    refine OS.pure rfl (e_add rfl rfl rfl (in_i64 (by omega) (by omega))) rfl ?_
    refine OS.pure rfl (fun _ => rfl) rfl ?_
    refine OS.nil ?_
    refine ⟨m - (i + 1), by omega, i + 1, _, rN', rA', rT', T', want', xs ++ [.slice (some ⟨rN, 0, none⟩) nn openCap], rfl, by omega, hnn1, by simp [hxs], ?_, hwant', hT', ?_, rfl⟩
    · intro j hj
      by_cases hji : j < xs.length
      · obtain ⟨r, h1, h2⟩ := hold j hji
        exact ⟨r, by rw [List.getElem?_append_left hji]; exact h1, hTT _ h2⟩
      · have hji : j = xs.length := by simp at hj; omega
        subst hji
        rw [hxs]
        exact ⟨rN, by rw [← hxs]; simp [hnn, hxs], hN'⟩
    · rw [← hsucc, texts_succ (n := i + 1)]
  · have hc : (m : Int) ≤ i := nlt_of hc
    have hin : i = m := by omega
    subst hin
    refine LS.exit ?_
    repeat refine LS.seq ?_
    refine LS.region rfl ?_
    refine OS.pure rfl (fun _ => rfl) rfl ?_
    refine OS.nil ?_
    -- what is known of each list that was laid
    have hall : ∀ {L₁ : RL}, (∀ p, p ∈ T → p ∈ L₁) → (rN, .cells 5 (byteCells (B i))) ∈ L₁ → Olds L₁ B (xs ++ [.slice (some ⟨rN, 0, none⟩) nn openCap]) := fun h1 h2 j hj => by
      by_cases hji : j < xs.length
      · obtain ⟨r, h3, h4⟩ := hold j hji
        exact ⟨r, by rw [List.getElem?_append_left hji]; exact h3, h1 _ h4⟩
      · have hji : j = xs.length := by simp at hj; omega
        subst hji
        exact ⟨rN, by simp [hnn, hxs], by rw [hxs]; exact h2⟩
    repeat refine LS.seq ?_
    refine LS.block ?_
    refine LS.loopJ [0, 1, 4, 5, 7, 8, 10] (fun q a L => ∃ j, q = i + 1 - j ∧ j ≤ i + 1 ∧ L = (rN, .cells 5 (byteCells (B i))) :: (rA, .cells 22 (xs ++ [.slice (some ⟨rN, 0, none⟩) nn openCap])) :: (rT, .cells 9 (texts B (i + 1))) :: T ∧
      a = [b, l, .chan none, .chan none, .bool false, .slice (some ⟨rN, 0, none⟩) nn openCap, .chan none, .slice (some ⟨rA, 0, none⟩) (i + 1) openCap, .slice (some ⟨rT, 0, none⟩) (i + 1) openCap, .chan none, .int .i64 (j : Nat), .chan none, .chan none, .chan none, .chan none, .chan none, .chan none, .chan none, .chan none, .chan none, .chan none, .chan none, .chan none, .chan none, .chan none, .chan none, .chan none, .chan none, .chan none, .chan none, .chan none, .chan none, .chan none, .chan none, .chan none, .chan none, .chan none, .chan none, .chan none, .chan none, .chan none, .chan none, .chan none, .chan none, .chan none, .chan none, .chan none, .chan none, .chan none, .chan none, .chan none, .chan none, .chan none, .chan none, .chan none, .chan none, .chan none, .chan none, .chan none, .chan none, .chan none, .chan none, .chan none, .chan none, .chan none, .chan none, .chan none, .chan none, .chan none, .chan none, .chan none, .chan none, .chan none, .chan none, .chan none, .chan none, .chan none, .chan none, .chan none, .chan none, .chan none, .chan none, .chan none, .chan none, .chan none, .chan none, .chan none, .chan none, .chan none, .chan none, .chan none, .chan none, .chan none, .chan none, .chan none, .chan none, .chan none, .chan none, .chan none, .chan none, .chan none, .chan none, .chan none, .chan none, .chan none, .chan none, .chan none, .chan none, .chan none, .chan none, .chan none, .chan none]) (n := i + 1) rfl ⟨0, rfl, by omega, rfl, rfl⟩ ?_
    rintro q a L ⟨j, rfl, hj, rfl, rfl⟩
    repeat refine LS.seq ?_
    refine LS.region rfl ?_
    refine OS.pure rfl (fun _ => rfl) rfl ?_
    refine OS.pure rfl (fun _ => rfl) rfl ?_
    refine OS.pure rfl (fun _ => rfl) rfl ?_
    refine OS.pure rfl (fun _ => rfl) rfl ?_
    refine OS.nil ?_
    refine LS.cond rfl (fun hc => ?_) (fun hc => ?_)
    · have hc : (j : Int) < ((i + 1 : Nat) : Int) := lt_of hc
      have hjn : j < i + 1 := by omega
      obtain ⟨rj, hx, hr⟩ := hall (L₁ := (rN, .cells 5 (byteCells (B i))) :: (rA, .cells 22 (xs ++ [.slice (some ⟨rN, 0, none⟩) nn openCap])) :: (rT, .cells 9 (texts B (i + 1))) :: T) (fun p hp => by simp [hp]) (by simp) j (by simp; omega)
      refine LS.skip ?_
      repeat refine LS.seq ?_
      refine LS.block ?_
      repeat refine LS.seq ?_
      refine LS.drawn noGo mixed [(0, false), (1, false), (2, false), (3, false), (4, false), (5, false), (6, false), (7, false), (8, false), (9, false)] rfl rfl (by kernel_rfl) ?_
      refine ODS.pure rfl rfl (fun _ => rfl) rfl ?_
      refine ODS.pure rfl rfl (fun _ => rfl) rfl ?_
      refine ODS.at1 (j := j) (SV.row (e := 22) (r := rA) (sz := 1) (n := i + 1) (by simp) (by simp; omega)) hx rfl rfl rfl rfl rfl rfl rfl (fun r0 o0 row0 cs0 m0 c0 g0 => ?_)
      refine ⟨_, rfl, ?_⟩
      refine ODS.read rfl rfl (e_loadm m0 c0 rfl rfl (part_one rfl g0)) rfl ?_
      refine ODS.read rfl rfl (e_textSV (SV.row hr (by rw [byteCells_len]; omega)) rfl rfl rfl rfl rfl) rfl ?_
      refine ODS.pure rfl rfl (fun _ => rfl) rfl ?_
      refine ODS.pure rfl rfl (fun _ => rfl) rfl ?_
      refine ODS.at1 (j := j) (SV.row (e := 9) (r := rT) (sz := 1) (n := i + 1) (cs := texts B (i + 1)) (by simp) (by simp [texts])) (texts_get hjn) rfl rfl rfl rfl rfl rfl rfl (fun r0 o0 row0 cs0 m0 c0 g0 => ?_)
      refine ⟨_, rfl, ?_⟩
      refine ODS.read rfl rfl (e_loadm m0 c0 rfl rfl (part_one rfl g0)) rfl ?_
      refine ODS.pure rfl rfl (e_is (fun _ => rfl) (congrArg Value.bool (show (!bytesEq (B j) (B j)) = false by rw [bytesEq_eq]; simp))) rfl ?_
      refine ODS.nil ?_
      refine LS.cond rfl (fun hc => by cases hc) (fun hc => ?_)
      refine LS.skip ?_
      repeat refine LS.seq ?_
      refine LS.region rfl ?_
      refine OS.pure rfl (fun _ => rfl) rfl ?_
      refine OS.pure rfl (e_add rfl rfl rfl (in_i64 (by omega) (by omega))) rfl ?_
      refine OS.pure rfl (fun _ => rfl) rfl ?_
      refine OS.nil ?_
      exact ⟨i + 1 - (j + 1), by omega, j + 1, rfl, by omega, rfl, rfl⟩
    · refine LS.exit ?_
      repeat refine LS.seq ?_
      refine LS.region rfl ?_
      refine OS.pure rfl (fun _ => rfl) rfl ?_
      refine OS.nil ?_
      clear hc hj
      refine LS.mid [0, 1, 4, 7, 8] (fun a L => ∃ C : List Int, L = (rN, .cells 5 (C.map fun x => .int .u8 x)) :: (rA, .cells 22 (xs ++ [.slice (some ⟨rN, 0, none⟩) nn openCap])) :: (rT, .cells 9 (texts B (i + 1))) :: T ∧ a = [b, l, .chan none, .chan none, .bool false, .chan none, .chan none, .slice (some ⟨rA, 0, none⟩) (i + 1) openCap, .slice (some ⟨rT, 0, none⟩) (i + 1) openCap, .chan none, .chan none, .chan none, .chan none, .chan none, .chan none, .chan none, .chan none, .chan none, .chan none, .chan none, .chan none, .chan none, .chan none, .chan none, .chan none, .chan none, .chan none, .chan none, .chan none, .chan none, .chan none, .chan none, .chan none, .chan none, .chan none, .chan none, .chan none, .chan none, .chan none, .chan none, .chan none, .chan none, .chan none, .chan none, .chan none, .chan none, .chan none, .chan none, .chan none, .chan none, .chan none, .chan none, .chan none, .chan none, .chan none, .chan none, .chan none, .chan none, .chan none, .chan none, .chan none, .chan none, .chan none, .chan none, .chan none, .chan none, .chan none, .chan none, .chan none, .chan none, .chan none, .chan none, .chan none, .chan none, .chan none, .chan none, .chan none, .chan none, .chan none, .chan none, .chan none, .chan none, .chan none, .chan none, .chan none, .chan none, .chan none, .chan none, .chan none, .chan none, .chan none, .chan none, .chan none, .chan none, .chan none, .chan none, .chan none, .chan none, .chan none, .chan none, .chan none, .chan none, .chan none, .chan none, .chan none, .chan none, .chan none, .chan none, .chan none, .chan none, .chan none, .chan none]) ?_ ?_
      rotate_left
      · rintro a L ⟨C, rfl, rfl⟩
        repeat refine LS.seq ?_
        refine LS.region rfl ?_
        refine OS.pure rfl (fun _ => rfl) rfl ?_
        refine OS.nil ?_
        repeat refine LS.seq ?_
        refine LS.block ?_
        refine LS.loopJ [0, 1, 4, 7, 8, 12] (fun q a L => ∃ j, q = i - j ∧ j ≤ i ∧ L = (rN, .cells 5 (C.map fun x => .int .u8 x)) :: (rA, .cells 22 (xs ++ [.slice (some ⟨rN, 0, none⟩) nn openCap])) :: (rT, .cells 9 (texts B (i + 1))) :: T ∧
          a = [b, l, .chan none, .chan none, .bool false, .chan none, .chan none, .slice (some ⟨rA, 0, none⟩) (i + 1) openCap, .slice (some ⟨rT, 0, none⟩) (i + 1) openCap, .chan none, .chan none, .chan none, .int .i64 (j : Nat), .chan none, .chan none, .chan none, .chan none, .chan none, .chan none, .chan none, .chan none, .chan none, .chan none, .chan none, .chan none, .chan none, .chan none, .chan none, .chan none, .chan none, .chan none, .chan none, .chan none, .chan none, .chan none, .chan none, .chan none, .chan none, .chan none, .chan none, .chan none, .chan none, .chan none, .chan none, .chan none, .chan none, .chan none, .chan none, .chan none, .chan none, .chan none, .chan none, .chan none, .chan none, .chan none, .chan none, .chan none, .chan none, .chan none, .chan none, .chan none, .chan none, .chan none, .chan none, .chan none, .chan none, .chan none, .chan none, .chan none, .chan none, .chan none, .chan none, .chan none, .chan none, .chan none, .chan none, .chan none, .chan none, .chan none, .chan none, .chan none, .chan none, .chan none, .chan none, .chan none, .chan none, .chan none, .chan none, .chan none, .chan none, .chan none, .chan none, .chan none, .chan none, .chan none, .chan none, .chan none, .chan none, .chan none, .chan none, .chan none, .chan none, .chan none, .chan none, .chan none, .chan none, .chan none, .chan none, .chan none, .chan none, .chan none, .chan none]) (n := i) rfl ⟨0, rfl, by omega, rfl, rfl⟩ ?_
        rintro q a L ⟨j, rfl, hj, rfl, rfl⟩
        repeat refine LS.seq ?_
        refine LS.region rfl ?_
        refine OS.pure rfl (fun _ => rfl) rfl ?_
        refine OS.pure rfl (fun _ => rfl) rfl ?_
        refine OS.pure rfl (e_len hl.sv rfl rfl rfl rfl rfl) rfl ?_
        refine OS.pure rfl (fun _ => rfl) rfl ?_
        refine OS.nil ?_
        refine LS.cond rfl (fun hc => ?_) (fun hc => ?_)
        · have hc : (j : Int) < (i : Int) := lt_of hc
          have hjn : j < i := by omega
          obtain ⟨rj, hx, hr⟩ := hold j (by omega)
          have hx : (xs ++ [Value.slice (some ⟨rN, 0, none⟩) nn openCap])[j]? = some (.slice (some ⟨rj, 0, none⟩) (B j).length openCap) := by rw [List.getElem?_append_left (by omega)]; exact hx
          refine LS.skip ?_
          repeat refine LS.seq ?_
          refine LS.block ?_
          repeat refine LS.seq ?_
          refine LS.drawn noGo mixed [(0, false), (1, false), (2, false), (3, false), (4, false), (5, false), (6, false), (7, false), (8, false), (9, false)] rfl rfl (by kernel_rfl) ?_
          refine ODS.pure rfl rfl (fun _ => rfl) rfl ?_
          refine ODS.pure rfl rfl (fun _ => rfl) rfl ?_
          refine ODS.at1 (j := j) (SV.row (e := 22) (r := rA) (sz := 1) (n := i + 1) (by simp) (by simp; omega)) hx rfl rfl rfl rfl rfl rfl rfl (fun r0 o0 row0 cs0 m0 c0 g0 => ?_)
          refine ⟨_, rfl, ?_⟩
          refine ODS.read rfl rfl (e_loadm m0 c0 rfl rfl (part_one rfl g0)) rfl ?_
          refine ODS.read rfl rfl (e_textSV (SV.row (e := 5) (r := rj) (cs := byteCells (B j)) (by simp [hr]) (by rw [byteCells_len]; omega)) rfl rfl rfl rfl rfl) rfl ?_
          refine ODS.pure rfl rfl (fun _ => rfl) rfl ?_
          refine ODS.pure rfl rfl (fun _ => rfl) rfl ?_
          refine ODS.at1 (j := j) (SV.row (e := 9) (r := rT) (sz := 1) (n := i + 1) (cs := texts B (i + 1)) (by simp) (by simp [texts])) (texts_get (by omega)) rfl rfl rfl rfl rfl rfl rfl (fun r0 o0 row0 cs0 m0 c0 g0 => ?_)
          refine ⟨_, rfl, ?_⟩
          refine ODS.read rfl rfl (e_loadm m0 c0 rfl rfl (part_one rfl g0)) rfl ?_
          refine ODS.pure rfl rfl (e_is (fun _ => rfl) (congrArg Value.bool (show (!bytesEq (B j) (B j)) = false by rw [bytesEq_eq]; simp))) rfl ?_
          refine ODS.nil ?_
          refine LS.cond rfl (fun hc => by cases hc) (fun hc => ?_)
          refine LS.skip ?_
          repeat refine LS.seq ?_
          refine LS.region rfl ?_
          refine OS.pure rfl (fun _ => rfl) rfl ?_
          refine OS.pure rfl (e_add rfl rfl rfl (in_i64 (by omega) (by omega))) rfl ?_
          refine OS.pure rfl (fun _ => rfl) rfl ?_
          refine OS.nil ?_
          exact ⟨i - (j + 1), by omega, j + 1, rfl, by omega, rfl, rfl⟩
        · refine LS.exit ?_
          repeat refine LS.seq ?_
          refine LS.region rfl ?_
          refine OS.pure rfl (fun _ => rfl) rfl ?_
          refine OS.nil ?_
          refine LS.ret ⟨_, fun _ _ => rfl, ?_⟩
          rfl
      repeat refine LS.seq ?_
      refine LS.block ?_
      refine LS.loopJ [0, 1, 4, 5, 7, 8, 11] (fun q a L => ∃ j C, q = nn - j ∧ j ≤ nn ∧ C.length = nn ∧ L = (rN, .cells 5 (C.map fun x => .int .u8 x)) :: (rA, .cells 22 (xs ++ [.slice (some ⟨rN, 0, none⟩) nn openCap])) :: (rT, .cells 9 (texts B (i + 1))) :: T ∧
        a = [b, l, .chan none, .chan none, .bool false, .slice (some ⟨rN, 0, none⟩) nn openCap, .chan none, .slice (some ⟨rA, 0, none⟩) (i + 1) openCap, .slice (some ⟨rT, 0, none⟩) (i + 1) openCap, .chan none, .chan none, .int .i64 (j : Nat), .chan none, .chan none, .chan none, .chan none, .chan none, .chan none, .chan none, .chan none, .chan none, .chan none, .chan none, .chan none, .chan none, .chan none, .chan none, .chan none, .chan none, .chan none, .chan none, .chan none, .chan none, .chan none, .chan none, .chan none, .chan none, .chan none, .chan none, .chan none, .chan none, .chan none, .chan none, .chan none, .chan none, .chan none, .chan none, .chan none, .chan none, .chan none, .chan none, .chan none, .chan none, .chan none, .chan none, .chan none, .chan none, .chan none, .chan none, .chan none, .chan none, .chan none, .chan none, .chan none, .chan none, .chan none, .chan none, .chan none, .chan none, .chan none, .chan none, .chan none, .chan none, .chan none, .chan none, .chan none, .chan none, .chan none, .chan none, .chan none, .chan none, .chan none, .chan none, .chan none, .chan none, .chan none, .chan none, .chan none, .chan none, .chan none, .chan none, .chan none, .chan none, .chan none, .chan none, .chan none, .chan none, .chan none, .chan none, .chan none, .chan none, .chan none, .chan none, .chan none, .chan none, .chan none, .chan none, .chan none, .chan none, .chan none, .chan none, .chan none]) (n := nn) rfl ⟨0, (B i).map fun b => (b.toNat : Int), rfl, by omega, by simpa using hnn, by simp [byteCells], rfl⟩ ?_
      rintro q a L ⟨j, C, rfl, hj, hC, rfl, rfl⟩
      by_cases hjn : j < nn
      · have hb1 : (!ileB (nn : Int) (j : Int)) = true := by rw [ileB_eq]; simp; omega
        repeat refine LS.seq ?_
        refine LS.region rfl ?_
        refine OS.pure rfl (fun _ => rfl) rfl ?_
        refine OS.pure rfl (fun _ => rfl) rfl ?_
        refine OS.pure rfl (fun _ => rfl) rfl ?_
        refine OS.pure rfl (e_is (fun _ => rfl) (congrArg Value.bool hb1)) rfl ?_
        refine OS.pure rfl (fun _ => rfl) rfl ?_
        refine OS.pure rfl (fun _ => rfl) rfl ?_
        refine OS.pure rfl (e_len hl.sv rfl rfl rfl rfl rfl) rfl ?_
        refine OS.pure rfl (fun _ => rfl) rfl ?_
        refine OS.pure rfl (fun _ => rfl) rfl ?_
        refine OS.nil ?_
        refine LS.cond rfl (fun hc => ?_) (fun hc => ?_)
        · refine LS.skip ?_
          repeat refine LS.seq ?_
          refine LS.block ?_
          repeat refine LS.seq ?_
          refine LS.region rfl ?_
          refine OS.pure rfl (fun _ => rfl) rfl ?_
          refine OS.pure rfl (fun _ => rfl) rfl ?_
          refine OS.pure rfl (fun _ => rfl) rfl ?_
          refine OS.pure rfl (fun _ => rfl) rfl ?_
          refine OS.at1 (j := j) (u := .int .u8 C[j]) (SV.row (e := 5) (r := rN) (sz := 1) (n := nn) (List.mem_cons_self ..) (by simpa using hC)) (by simp [List.getElem?_eq_getElem (show j < C.length by omega)]) rfl rfl rfl rfl rfl rfl (fun r0 o0 row0 cs0 m0 c0 g0 => ?_)
          refine ⟨_, rfl, ?_⟩
          refine OS.read rfl (e_loadm m0 c0 rfl rfl (part_one rfl g0)) rfl ?_
          refine OS.pure rfl (fun _ => rfl) rfl ?_
          refine OS.pure rfl (e_index (r := rN) (off := 0) (j := j) (sz := 1) rfl rfl rfl rfl rfl hjn) rfl ?_
          refine OS.write rfl (e_store 0 (n := 1) rfl rfl rfl rfl rfl rfl (lay_one (by simp; omega)) rfl) rfl ?_
          refine OS.nil ?_
          repeat refine LS.seq ?_
          refine LS.region rfl ?_
          refine OS.pure rfl (fun _ => rfl) rfl ?_
          refine OS.pure rfl (e_add rfl rfl rfl (in_i64 (by omega) (by omega))) rfl ?_
          refine OS.pure rfl (fun _ => rfl) rfl ?_
          refine OS.nil ?_
          refine ⟨nn - (j + 1), by omega, j + 1, C.set j (wrapB .u8 (C[j] + 1)), rfl, by omega, by simpa using hC, ?_, rfl⟩
          rw [List.map_set]; simp
        · refine LS.exit ?_
          exact ⟨C, rfl, rfl⟩
      · have hb1 : (!ileB (nn : Int) (j : Int)) = false := by rw [ileB_eq]; simp; omega
        repeat refine LS.seq ?_
        refine LS.region rfl ?_
        refine OS.pure rfl (fun _ => rfl) rfl ?_
        refine OS.pure rfl (fun _ => rfl) rfl ?_
        refine OS.pure rfl (fun _ => rfl) rfl ?_
        refine OS.pure rfl (e_is (fun _ => rfl) (congrArg Value.bool hb1)) rfl ?_
        refine OS.pure rfl (fun _ => rfl) rfl ?_
        refine OS.skip rfl rfl ?_
        refine OS.skip rfl rfl ?_
        refine OS.skip rfl rfl ?_
        refine OS.pure rfl (fun _ => rfl) rfl ?_
        refine OS.nil ?_
        refine LS.cond rfl (fun hc => by cases hc) (fun hc => ?_)
        refine LS.exit ?_
        exact ⟨C, rfl, rfl⟩
end Go.Proofs.Ytnfenpkkhkdkhaa

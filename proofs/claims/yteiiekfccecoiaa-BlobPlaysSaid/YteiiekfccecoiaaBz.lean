/- Layer 8: what BlobPlays comes to. -/
import Derived.Test.YteiiekfccecoiaaBy
import Derived.Test.YteiiekfccecoiaaOpenQ
namespace Go.Proofs.Yteiiekfccecoiaa
open Go.Am
set_option linter.unusedVariables false
set_option maxRecDepth 20000

theorem qps_cut {ts : List Qp} {i : Nat} {t : Qp} (h : ts[i]? = some t) : Go.Am.cut (ts.flatMap Qp.cells) (i * 4) 4 = some t.cells := by
  have hi : i < ts.length := (List.getElem?_eq_some_iff.1 h).1
  have hl : (ts.flatMap Qp.cells).length = ts.length * 4 := qp_len ts
  rw [cut_of (by omega)]
  congr 1
  apply List.ext_getElem?
  intro j
  rw [List.getElem?_take]
  split
  · rename_i hj
    rw [List.getElem?_drop]
    exact qp_at ts i j t h hj
  · rename_i hj
    rw [List.getElem?_eq_none (by simp [Qp.cells]; omega)]
abbrev opRow (t : Qp) : ARow := .cells 26 t.cells
/-- The state at a step's head. -/
def PI (L : RL) (lv : Value) (n i k : Nat) (a : Slots) (L₁ : RL) : Prop :=
  ∃ (c : Whr) (s : Dk) (T : List Bool) (V : List (List Nat × List UInt8)) (H : List Int) (g : Nat → Option Value) (x : Nat) (X Y : RL), Tw c s T V H g n (1000 * i) ∧ (s.cut = true → 1000 * (60 - i) ≤ s.left) ∧ XR x H g X ∧ L₁ = bl c s T (X ++ (Y ++ L)) ∧
    a = [.chan none, lv, .chan none, .chan none, .chan none, .int .i64 (n : Nat), .chan none, .chan none, ptr c.rd, .chan none, .chan none, .chan none, ptr c.rm, .chan none, ptr c.rD, .chan none, ptr x, .int .i64 (k : Nat), .chan none, .chan none, .chan none, .chan none, .chan none, .chan none, .chan none, .chan none, .chan none, .chan none, .chan none, .chan none, .chan none, .chan none, .chan none, .chan none, .chan none, .chan none, .chan none, .chan none, .chan none, .chan none, .chan none, .chan none, .chan none, .chan none, .chan none, .chan none, .chan none, .chan none, .chan none, .chan none, .chan none, .chan none, .chan none, .chan none, .chan none, .chan none, .chan none, .chan none, .chan none, .chan none, .chan none, .chan none, .chan none, .chan none, .chan none, .chan none, .chan none, .chan none, .chan none, .chan none, .chan none, .chan none, .chan none, .chan none, .chan none, .chan none, .chan none, .chan none, .chan none, .chan none, .chan none, .chan none, .chan none, .chan none, .chan none, .chan none, .chan none, .chan none, .chan none, .chan none, .chan none, .chan none, .chan none, .chan none, .chan none, .chan none, .chan none, .chan none, .chan none, .chan none, .chan none, .chan none, .chan none, .chan none, .chan none, .chan none, .chan none, .chan none, .chan none, .chan none, .chan none, .chan none, .chan none, .chan none, .chan none, .chan none, .chan none, .chan none, .chan none, .chan none, .chan none, .chan none, .chan none, .chan none, .chan none, .chan none, .chan none, .chan none, .chan none, .chan none, .chan none, .chan none, .chan none, .chan none, .chan none, .chan none, .chan none, .chan none, .chan none, .chan none, .chan none, .chan none, .chan none, .chan none, .chan none, .chan none, .chan none, .chan none, .chan none, .chan none, .chan none, .chan none, .chan none, .chan none, .chan none, .chan none, .chan none, .chan none, .chan none, .chan none, .chan none, .chan none, .chan none, .chan none, .chan none, .chan none, .chan none, .chan none, .chan none, .chan none, .chan none, .chan none, .chan none, .chan none, .chan none, .chan none, .chan none, .chan none, .chan none, .chan none, .chan none, .chan none, .chan none, .chan none, .chan none, .chan none, .chan none, .chan none, .chan none, .chan none, .chan none, .chan none, .chan none, .chan none, .chan none, .chan none, .chan none, .chan none, .chan none, .chan none, .chan none, .chan none, .chan none, .chan none, .chan none, .chan none, .chan none, .chan none, .chan none, .chan none, .chan none, .chan none, .chan none, .chan none, .chan none, .chan none, .chan none, .chan none, .chan none, .chan none, .chan none, .chan none, .chan none, .chan none, .chan none, .chan none, .chan none, .chan none, .chan none, .chan none, .chan none, .chan none, .chan none, .chan none, .chan none, .chan none, .chan none, .chan none, .chan none, .chan none, .chan none, .chan none, .chan none, .chan none, .chan none, .chan none, .chan none, .chan none, .chan none, .chan none, .chan none, .chan none, .chan none, .chan none, .chan none, .chan none, .chan none, .chan none, .chan none, .chan none, .chan none, .chan none, .chan none, .chan none, .chan none, .chan none, .chan none, .chan none, .chan none, .chan none, .chan none, .chan none, .chan none, .chan none, .chan none, .chan none, .chan none, .chan none, .chan none, .chan none, .chan none, .chan none, .chan none, .chan none, .chan none, .chan none, .chan none, .chan none, .chan none, .chan none, .chan none, .chan none, .chan none, .chan none, .chan none, .chan none, .chan none, .chan none, .chan none, .chan none, .chan none, .chan none, .chan none, .chan none, .chan none, .chan none, .chan none, .chan none, .chan none, .chan none, .chan none, .chan none, .chan none, .chan none, .chan none, .chan none, .chan none, .chan none, .chan none, .chan none, .chan none, .chan none, .chan none, .chan none, .chan none]

theorem mem_blkH {H : List Int} {x k : Nat} : x ∈ blkH H k ↔ H[x]? = some (k : Int) := by
  unfold blkH
  rw [List.mem_filter, List.mem_range, decide_eq_true_iff]
  exact ⟨fun h => h.2, fun h => ⟨(List.getElem?_eq_some_iff.1 h).1, h⟩⟩
/-- What is not claimed yet. -/
theorem claims_free {H : List Int} {T : List Bool} {a k : Nat} (hk : (idsH H)[a]? = some k) (h : ∀ j, Z.tkn T j = decide (j ∈ ((idsH H).take a).flatMap (blkH H))) : ∀ x ∈ blkH H k, Z.tkn T x = false := fun x hx => by
  rw [h, decide_eq_false_iff_not]
  intro hm
  obtain ⟨k', hk', hx'⟩ := List.mem_flatMap.1 hm
  rw [mem_blkH] at hx hx'
  rw [hx] at hx'
  have he : k = k' := by have := Option.some.inj hx'; omega
  subst he
  obtain ⟨b, hb⟩ := List.mem_iff_getElem?.1 hk'
  rw [List.getElem?_take] at hb
  split at hb
  · rename_i hba
    have := (List.getElem?_inj (List.getElem?_eq_some_iff.1 hb).1 (idsH_nodup H)).1 (hb.trans hk.symm)
    omega
  · cases hb
theorem claims_next {H : List Int} {T : List Bool} {a k : Nat} (hk : (idsH H)[a]? = some k) (h : ∀ j, Z.tkn T j = decide (j ∈ ((idsH H).take a).flatMap (blkH H))) (hl : ∀ x ∈ blkH H k, x < T.length) : ∀ j, Z.tkn (claimL T (blkH H k)) j = decide (j ∈ ((idsH H).take (a + 1)).flatMap (blkH H)) := fun j => by
  rw [claimL_tkn hl, h, List.take_add_one, hk]
  simp only [List.flatMap_append, List.mem_append, Option.toList, List.flatMap_cons, List.flatMap_nil, List.append_nil, Bool.decide_or]
theorem claims_end {D : List UInt8} {base n : Nat} {T T' : List Bool} {V : List (List Nat × List UInt8)} {H : List Int} {g : Nat → Option Value} (hR : RX V H g n) (hT : TH T H) (hd : Hd D base T V) (hl : T'.length = T.length) (h : ∀ j, Z.tkn T' j = decide (j ∈ (idsH H).flatMap (blkH H))) : T' = T := by
  refine Z.list_ext hl fun j => ?_
  rw [h]
  rcases Nat.lt_or_ge j H.length with hj | hj
  · obtain ⟨z, hz⟩ : ∃ z, H[j]? = some z := ⟨_, List.getElem?_eq_getElem hj⟩
    rw [hT.tkn hz]
    rw [decide_eq_decide]
    constructor
    · intro hm
      obtain ⟨k, _, hk⟩ := List.mem_flatMap.1 hm
      rw [mem_blkH, hz] at hk
      have := Option.some.inj hk
      omega
    · intro h0
      obtain ⟨k, rfl⟩ : ∃ k : Nat, z = (k : Int) := ⟨z.toNat, by omega⟩
      obtain ⟨v, hv, _, hk⟩ := hR.who hz
      exact List.mem_flatMap.2 ⟨k, by rw [← hk]; exact hR.idOf hd hv, mem_blkH.2 hz⟩
  · rw [Z.tkn_out (by rw [hT.len]; exact hj), decide_eq_false_iff_not]
    intro hm
    obtain ⟨k, _, hk⟩ := List.mem_flatMap.1 hm
    rw [mem_blkH] at hk
    have := (List.getElem?_eq_some_iff.1 hk).1
    omega
theorem Sub.toDk {c : Whr} {s : Dk} {T : List Bool} {F : RL} : Sub (dk c.rd c.rb s F) (bl c s T F) :=
  Sub.sums2 ((c.rD, .cells 78 [ptr c.rj, .int .i64 (c.base : Nat), ptr c.rm]) :: (c.rj, .cells 72 [ptr c.rd]) :: Z.fm c.rm c.rf T []) fun f => by simp [bl, Z.fm] <;> omega
theorem pReopen_ct {c : Whr} {s : Dk} {T : List Bool} {F : RL} (hs : s.ok) (hd : s.dead = true) : CS Try.prog 24 [ptr c.rd] (bl c s T F) fun v L' => ∃ rd' rb', v = .tuple #[ptr rd', .int .i64 0] ∧ L' = dk rd' rb' ⟨s.n, s.D, 0, false, 0, false⟩ F :=
  (CS.sub (Sub.pulls [3, 3] rfl) (Reopen_ct (F := (c.rD, .cells 78 [ptr c.rj, .int .i64 (c.base : Nat), ptr c.rm]) :: (c.rj, .cells 72 [ptr c.rd]) :: Z.fm c.rm c.rf T F) hs hd)).less fun v L' ⟨rd', rb', h1, h2⟩ => ⟨dk rd' rb' ⟨s.n, s.D, 0, false, 0, false⟩ F, by rw [h2]; exact Sub.sums2 (bl c s T []) fun f => by simp [bl, Z.fm] <;> omega, rd', rb', h1, rfl⟩
/-- Behind a Put of a thousand bytes. -/
def PM (L : RL) (lv : Value) (n i N rO x : Nat) (c : Whr) (T : List Bool) (V : List (List Nat × List UInt8)) (X F : RL) (d : List UInt8) (a : Slots) (L₁ : RL) : Prop :=
  ∃ (e : Int) (s' : Dk) (T' : List Bool) (V' : List (List Nat × List UInt8)) (Y : RL), W8 c s' T' V' (1000 * i + 400) ∧ L₁ = bl c s' T' (X ++ (Y ++ F)) ∧
    ((e = 20 ∧ s'.dead = true ∧ T' = T ∧ V' = V ∧ N < 5 ∧ 5 ≤ Z.frees T) ∨ (e = 3 ∧ s'.dead = false ∧ T' = T ∧ V' = V ∧ Z.frees T < 5) ∨ (e = 0 ∧ s'.dead = false ∧ T' = Z.tkT T 5 ∧ V' = V ++ [(Z.tkL T 5, d)] ∧ 5 ≤ Z.frees T)) ∧
    a = [.chan none, lv, .chan none, .chan none, .chan none, .int .i64 (n : Nat), .chan none, .chan none, ptr c.rd, .chan none, .chan none, .chan none, .chan none, .chan none, .chan none, .chan none, ptr x, .int .i64 (i : Nat), ptr rO, .chan none, .chan none, .chan none, .chan none, .chan none, .chan none, .chan none, .chan none, .chan none, .chan none, .chan none, .int .i64 e, .chan none, .chan none, .chan none, .chan none, .chan none, .chan none, .chan none, .chan none, .chan none, .chan none, .chan none, .chan none, .chan none, .chan none, .chan none, .chan none, .chan none, .chan none, .chan none, .chan none, .chan none, .chan none, .chan none, .chan none, .chan none, .chan none, .chan none, .chan none, .chan none, .chan none, .chan none, .chan none, .chan none, .chan none, .chan none, .chan none, .chan none, .chan none, .chan none, .chan none, .chan none, .chan none, .chan none, .chan none, .chan none, .chan none, .chan none, .chan none, .chan none, .chan none, .chan none, .chan none, .chan none, .chan none, .chan none, .chan none, .chan none, .chan none, .chan none, .chan none, .chan none, .chan none, .chan none, .chan none, .chan none, .chan none, .chan none, .chan none, .chan none, .chan none, .chan none, .chan none, .chan none, .chan none, .chan none, .chan none, .chan none, .chan none, .chan none, .chan none, .chan none, .chan none, .chan none, .chan none, .chan none, .chan none, .chan none, .chan none, .chan none, .chan none, .chan none, .chan none, .chan none, .chan none, .chan none, .chan none, .chan none, .chan none, .chan none, .chan none, .chan none, .chan none, .chan none, .chan none, .chan none, .chan none, .chan none, .chan none, .chan none, .chan none, .chan none, .chan none, .chan none, .chan none, .chan none, .chan none, .chan none, .chan none, .chan none, .chan none, .chan none, .chan none, .chan none, .chan none, .chan none, .chan none, .chan none, .chan none, .chan none, .chan none, .chan none, .chan none, .chan none, .chan none, .chan none, .chan none, .chan none, .chan none, .chan none, .chan none, .chan none, .chan none, .chan none, .chan none, .chan none, .chan none, .chan none, .chan none, .chan none, .chan none, .chan none, .chan none, .chan none, .chan none, .chan none, .chan none, .chan none, .chan none, .chan none, .chan none, .chan none, .chan none, .chan none, .chan none, .chan none, .chan none, .chan none, .chan none, .chan none, .chan none, .chan none, .chan none, .chan none, .chan none, .chan none, .chan none, .chan none, .chan none, .chan none, .chan none, .chan none, .chan none, .chan none, .chan none, .chan none, .chan none, .chan none, .chan none, .chan none, .chan none, .chan none, .chan none, .chan none, .chan none, .chan none, .chan none, .chan none, .chan none, .chan none, .chan none, .chan none, .chan none, .chan none, .chan none, .chan none, .chan none, .chan none, .chan none, .chan none, .chan none, .chan none, .chan none, .chan none, .chan none, .chan none, .chan none, .chan none, .chan none, .chan none, .chan none, .chan none, .chan none, .chan none, .chan none, .chan none, .chan none, .chan none, .chan none, .chan none, .chan none, .chan none, .chan none, .chan none, .chan none, .chan none, .chan none, .chan none, .chan none, .chan none, .chan none, .chan none, .chan none, .chan none, .chan none, .chan none, .chan none, .chan none, .chan none, .chan none, .chan none, .chan none, .chan none, .chan none, .chan none, .chan none, .chan none, .chan none, .chan none, .chan none, .chan none, .chan none, .chan none, .chan none, .chan none, .chan none, .chan none, .chan none, .chan none, .chan none, .chan none, .chan none, .chan none, .chan none, .chan none, .chan none, .chan none, .chan none, .chan none, .chan none, .chan none, .chan none, .chan none, .chan none, .chan none, .chan none, .chan none, .chan none, .chan none, .chan none, .chan none, .chan none, .chan none, .chan none, .chan none]
/-- The disk before it is opened again. -/
def PK (L : RL) (lv : Value) (n i x : Nat) (a : Slots) (L₁ : RL) : Prop :=
  ∃ (rd rb : Nat) (s : Dk) (T : List Bool) (V : List (List Nat × List UInt8)) (H : List Int) (g : Nat → Option Value) (X Y : RL), s.ok ∧ s.dead = false ∧ s.n = 512 ∧ blk s.D 1 = zeros ∧ s.wr ≤ 1000 * (i + 1) ∧ (s.cut = true → 1000 * (60 - (i + 1)) ≤ s.left) ∧ T.length = n ∧ Hd s.D 150 T V ∧ RX V H g n ∧ TH T H ∧ XR x H g X ∧ L₁ = dk rd rb s (X ++ (Y ++ L)) ∧
    a = [.chan none, lv, .chan none, .chan none, .chan none, .int .i64 (n : Nat), .chan none, .chan none, ptr rd, .chan none, .chan none, .chan none, .chan none, .chan none, .chan none, .chan none, ptr x, .int .i64 (i : Nat), .chan none, .chan none, .chan none, .chan none, .chan none, .chan none, .chan none, .chan none, .chan none, .chan none, .chan none, .chan none, .chan none, .chan none, .chan none, .chan none, .chan none, .chan none, .chan none, .chan none, .chan none, .chan none, .chan none, .chan none, .chan none, .chan none, .chan none, .chan none, .chan none, .chan none, .chan none, .chan none, .chan none, .chan none, .chan none, .chan none, .chan none, .chan none, .chan none, .chan none, .chan none, .chan none, .chan none, .chan none, .chan none, .chan none, .chan none, .chan none, .chan none, .chan none, .chan none, .chan none, .chan none, .chan none, .chan none, .chan none, .chan none, .chan none, .chan none, .chan none, .chan none, .chan none, .chan none, .chan none, .chan none, .chan none, .chan none, .chan none, .chan none, .chan none, .chan none, .chan none, .chan none, .chan none, .chan none, .chan none, .chan none, .chan none, .chan none, .chan none, .chan none, .chan none, .chan none, .chan none, .chan none, .chan none, .chan none, .chan none, .chan none, .chan none, .chan none, .chan none, .chan none, .chan none, .chan none, .chan none, .chan none, .chan none, .chan none, .chan none, .chan none, .chan none, .chan none, .chan none, .chan none, .chan none, .chan none, .chan none, .chan none, .chan none, .chan none, .chan none, .chan none, .chan none, .chan none, .chan none, .chan none, .chan none, .chan none, .chan none, .chan none, .chan none, .chan none, .chan none, .chan none, .chan none, .chan none, .chan none, .chan none, .chan none, .chan none, .chan none, .chan none, .chan none, .chan none, .chan none, .chan none, .chan none, .chan none, .chan none, .chan none, .chan none, .chan none, .chan none, .chan none, .chan none, .chan none, .chan none, .chan none, .chan none, .chan none, .chan none, .chan none, .chan none, .chan none, .chan none, .chan none, .chan none, .chan none, .chan none, .chan none, .chan none, .chan none, .chan none, .chan none, .chan none, .chan none, .chan none, .chan none, .chan none, .chan none, .chan none, .chan none, .chan none, .chan none, .chan none, .chan none, .chan none, .chan none, .chan none, .chan none, .chan none, .chan none, .chan none, .chan none, .chan none, .chan none, .chan none, .chan none, .chan none, .chan none, .chan none, .chan none, .chan none, .chan none, .chan none, .chan none, .chan none, .chan none, .chan none, .chan none, .chan none, .chan none, .chan none, .chan none, .chan none, .chan none, .chan none, .chan none, .chan none, .chan none, .chan none, .chan none, .chan none, .chan none, .chan none, .chan none, .chan none, .chan none, .chan none, .chan none, .chan none, .chan none, .chan none, .chan none, .chan none, .chan none, .chan none, .chan none, .chan none, .chan none, .chan none, .chan none, .chan none, .chan none, .chan none, .chan none, .chan none, .chan none, .chan none, .chan none, .chan none, .chan none, .chan none, .chan none, .chan none, .chan none, .chan none, .chan none, .chan none, .chan none, .chan none, .chan none, .chan none, .chan none, .chan none, .chan none, .chan none, .chan none, .chan none, .chan none, .chan none, .chan none, .chan none, .chan none, .chan none, .chan none, .chan none, .chan none, .chan none, .chan none, .chan none, .chan none, .chan none, .chan none, .chan none, .chan none, .chan none, .chan none, .chan none, .chan none, .chan none, .chan none, .chan none, .chan none, .chan none, .chan none, .chan none, .chan none, .chan none, .chan none, .chan none, .chan none, .chan none, .chan none, .chan none, .chan none, .chan none, .chan none, .chan none, .chan none, .chan none, .chan none, .chan none, .chan none, .chan none, .chan none]

set_option maxHeartbeats 4000000 in
theorem plays_ct {L : RL} {lv : Value} {m : Nat} {ts : List Qp} (blocks : Int) (hl : SV 4 L lv m (ts.flatMap Qp.cells)) (hm : m ≤ 9223372036854775807) :
    CS Try.prog 3 [.int .i64 blocks, lv] L fun v' _ => v' = .bool true := by
  have hlen : ts.length = m := by have := hl.len; rw [qp_len] at this; omega
  obtain ⟨n, hn⟩ : ∃ n, n = uns blocks % 300 := ⟨_, rfl⟩
  refine CS.mk (fn := Try.f3) rfl rfl rfl rfl ?_
  repeat refine LS.seq ?_
  refine LS.region rfl ?_
  refine OS.pure rfl (fun _ => rfl) rfl ?_
  refine OS.nil ?_
  repeat refine LS.seq ?_
  refine LS.region rfl ?_
  refine OS.pure rfl (fun _ => rfl) rfl ?_
  refine OS.pure rfl (e_uns rfl rfl rfl rfl) rfl ?_
  refine OS.pure rfl (e_is (e_rem (m := uns blocks) (n := 300) rfl rfl rfl (by decide)) (congrArg (fun x : Nat => Value.int .u64 (x : Int)) hn.symm)) rfl ?_
  refine OS.pure rfl (e_conv (k' := .i64) rfl rfl rfl rfl (in_i64 (by omega) (by omega))) rfl ?_
  refine OS.pure rfl (fun _ => rfl) rfl ?_
  refine OS.nil ?_
  by_cases hm50 : 50 < m
  · have hb2 : (!ileB (m : Int) 50) = true := by rw [ileB_eq]; simp; omega
    repeat refine LS.seq ?_
    refine LS.region rfl ?_
    refine OS.pure rfl (fun _ => rfl) rfl ?_
    refine OS.pure rfl (e_len hl rfl rfl rfl rfl rfl) rfl ?_
    refine OS.pure rfl (e_is (fun _ => rfl) (congrArg Value.bool hb2)) rfl ?_
    refine OS.nil ?_
    refine LS.cond rfl (fun hc => ?_) (fun hc => by cases hc)
    repeat refine LS.seq ?_
    refine LS.region rfl ?_
    refine OS.call noGo rfl (fun _ => rfl) ((awake_ct).mono ?_)
    rintro v L' ⟨rfl, hLL⟩
    refine ⟨_, rfl, ?_⟩
    refine OS.pure rfl (fun _ => rfl) rfl ?_
    refine OS.nil ?_
    refine LS.ret ⟨_, fun _ _ => rfl, ?_⟩
    rfl
  have hb2 : (!ileB (m : Int) 50) = false := by rw [ileB_eq]; simp; omega
  repeat refine LS.seq ?_
  refine LS.region rfl ?_
  refine OS.pure rfl (fun _ => rfl) rfl ?_
  refine OS.pure rfl (e_len hl rfl rfl rfl rfl rfl) rfl ?_
  refine OS.pure rfl (e_is (fun _ => rfl) (congrArg Value.bool hb2)) rfl ?_
  refine OS.nil ?_
  refine LS.cond rfl (fun hc => by cases hc) (fun hc => ?_)
  refine LS.skip ?_
  repeat refine LS.seq ?_
  refine LS.region rfl ?_
  refine OS.pure rfl (fun _ => rfl) rfl ?_
  refine OS.nil ?_
  repeat refine LS.seq ?_
  refine LS.region rfl ?_
  refine OS.pure rfl (fun _ => rfl) rfl ?_
  refine OS.nil ?_
  have hcell : ∀ i t, ts[i]? = some t → ∀ q, q < 4 → (ts.flatMap Qp.cells)[i * 4 + q]? = t.cells[q]? := fun i t h q hq => qp_at ts i q t h hq
  refine LS.mid [1, 5, 6] (fun a L₁ => (∀ t ∈ ts, 0 ≤ t.n ∧ t.n ≤ 100000) ∧ (∃ S : Int, L₁ = L ∧ a = [.chan none, lv, .chan none, .chan none, .chan none, .int .i64 (n : Nat), .int .i64 S, .chan none, .chan none, .chan none, .chan none, .chan none, .chan none, .chan none, .chan none, .chan none, .chan none, .chan none, .chan none, .chan none, .chan none, .chan none, .chan none, .chan none, .chan none, .chan none, .chan none, .chan none, .chan none, .chan none, .chan none, .chan none, .chan none, .chan none, .chan none, .chan none, .chan none, .chan none, .chan none, .chan none, .chan none, .chan none, .chan none, .chan none, .chan none, .chan none, .chan none, .chan none, .chan none, .chan none, .chan none, .chan none, .chan none, .chan none, .chan none, .chan none, .chan none, .chan none, .chan none, .chan none, .chan none, .chan none, .chan none, .chan none, .chan none, .chan none, .chan none, .chan none, .chan none, .chan none, .chan none, .chan none, .chan none, .chan none, .chan none, .chan none, .chan none, .chan none, .chan none, .chan none, .chan none, .chan none, .chan none, .chan none, .chan none, .chan none, .chan none, .chan none, .chan none, .chan none, .chan none, .chan none, .chan none, .chan none, .chan none, .chan none, .chan none, .chan none, .chan none, .chan none, .chan none, .chan none, .chan none, .chan none, .chan none, .chan none, .chan none, .chan none, .chan none, .chan none, .chan none, .chan none, .chan none, .chan none, .chan none, .chan none, .chan none, .chan none, .chan none, .chan none, .chan none, .chan none, .chan none, .chan none, .chan none, .chan none, .chan none, .chan none, .chan none, .chan none, .chan none, .chan none, .chan none, .chan none, .chan none, .chan none, .chan none, .chan none, .chan none, .chan none, .chan none, .chan none, .chan none, .chan none, .chan none, .chan none, .chan none, .chan none, .chan none, .chan none, .chan none, .chan none, .chan none, .chan none, .chan none, .chan none, .chan none, .chan none, .chan none, .chan none, .chan none, .chan none, .chan none, .chan none, .chan none, .chan none, .chan none, .chan none, .chan none, .chan none, .chan none, .chan none, .chan none, .chan none, .chan none, .chan none, .chan none, .chan none, .chan none, .chan none, .chan none, .chan none, .chan none, .chan none, .chan none, .chan none, .chan none, .chan none, .chan none, .chan none, .chan none, .chan none, .chan none, .chan none, .chan none, .chan none, .chan none, .chan none, .chan none, .chan none, .chan none, .chan none, .chan none, .chan none, .chan none, .chan none, .chan none, .chan none, .chan none, .chan none, .chan none, .chan none, .chan none, .chan none, .chan none, .chan none, .chan none, .chan none, .chan none, .chan none, .chan none, .chan none, .chan none, .chan none, .chan none, .chan none, .chan none, .chan none, .chan none, .chan none, .chan none, .chan none, .chan none, .chan none, .chan none, .chan none, .chan none, .chan none, .chan none, .chan none, .chan none, .chan none, .chan none, .chan none, .chan none, .chan none, .chan none, .chan none, .chan none, .chan none, .chan none, .chan none, .chan none, .chan none, .chan none, .chan none, .chan none, .chan none, .chan none, .chan none, .chan none, .chan none, .chan none, .chan none, .chan none, .chan none, .chan none, .chan none, .chan none, .chan none, .chan none, .chan none, .chan none, .chan none, .chan none, .chan none, .chan none, .chan none, .chan none, .chan none, .chan none, .chan none, .chan none, .chan none, .chan none, .chan none, .chan none, .chan none, .chan none, .chan none, .chan none, .chan none, .chan none, .chan none, .chan none, .chan none, .chan none, .chan none, .chan none, .chan none, .chan none, .chan none, .chan none, .chan none, .chan none, .chan none, .chan none, .chan none, .chan none, .chan none, .chan none, .chan none, .chan none, .chan none, .chan none, .chan none, .chan none, .chan none, .chan none, .chan none, .chan none, .chan none, .chan none, .chan none, .chan none])) ?_ ?_
  · refine LS.block ?_
    refine LS.loopJ [1, 5, 6, 7] (fun q a L₁ => ∃ (i : Nat) (S : Int), q = m - i ∧ i ≤ m ∧ (∀ j t, j < i → ts[j]? = some t → 0 ≤ t.n ∧ t.n ≤ 100000) ∧ 0 ≤ S ∧ S ≤ 100000 * (i : Int) ∧ L₁ = L ∧
      a = [.chan none, lv, .chan none, .chan none, .chan none, .int .i64 (n : Nat), .int .i64 S, .int .i64 (i : Nat), .chan none, .chan none, .chan none, .chan none, .chan none, .chan none, .chan none, .chan none, .chan none, .chan none, .chan none, .chan none, .chan none, .chan none, .chan none, .chan none, .chan none, .chan none, .chan none, .chan none, .chan none, .chan none, .chan none, .chan none, .chan none, .chan none, .chan none, .chan none, .chan none, .chan none, .chan none, .chan none, .chan none, .chan none, .chan none, .chan none, .chan none, .chan none, .chan none, .chan none, .chan none, .chan none, .chan none, .chan none, .chan none, .chan none, .chan none, .chan none, .chan none, .chan none, .chan none, .chan none, .chan none, .chan none, .chan none, .chan none, .chan none, .chan none, .chan none, .chan none, .chan none, .chan none, .chan none, .chan none, .chan none, .chan none, .chan none, .chan none, .chan none, .chan none, .chan none, .chan none, .chan none, .chan none, .chan none, .chan none, .chan none, .chan none, .chan none, .chan none, .chan none, .chan none, .chan none, .chan none, .chan none, .chan none, .chan none, .chan none, .chan none, .chan none, .chan none, .chan none, .chan none, .chan none, .chan none, .chan none, .chan none, .chan none, .chan none, .chan none, .chan none, .chan none, .chan none, .chan none, .chan none, .chan none, .chan none, .chan none, .chan none, .chan none, .chan none, .chan none, .chan none, .chan none, .chan none, .chan none, .chan none, .chan none, .chan none, .chan none, .chan none, .chan none, .chan none, .chan none, .chan none, .chan none, .chan none, .chan none, .chan none, .chan none, .chan none, .chan none, .chan none, .chan none, .chan none, .chan none, .chan none, .chan none, .chan none, .chan none, .chan none, .chan none, .chan none, .chan none, .chan none, .chan none, .chan none, .chan none, .chan none, .chan none, .chan none, .chan none, .chan none, .chan none, .chan none, .chan none, .chan none, .chan none, .chan none, .chan none, .chan none, .chan none, .chan none, .chan none, .chan none, .chan none, .chan none, .chan none, .chan none, .chan none, .chan none, .chan none, .chan none, .chan none, .chan none, .chan none, .chan none, .chan none, .chan none, .chan none, .chan none, .chan none, .chan none, .chan none, .chan none, .chan none, .chan none, .chan none, .chan none, .chan none, .chan none, .chan none, .chan none, .chan none, .chan none, .chan none, .chan none, .chan none, .chan none, .chan none, .chan none, .chan none, .chan none, .chan none, .chan none, .chan none, .chan none, .chan none, .chan none, .chan none, .chan none, .chan none, .chan none, .chan none, .chan none, .chan none, .chan none, .chan none, .chan none, .chan none, .chan none, .chan none, .chan none, .chan none, .chan none, .chan none, .chan none, .chan none, .chan none, .chan none, .chan none, .chan none, .chan none, .chan none, .chan none, .chan none, .chan none, .chan none, .chan none, .chan none, .chan none, .chan none, .chan none, .chan none, .chan none, .chan none, .chan none, .chan none, .chan none, .chan none, .chan none, .chan none, .chan none, .chan none, .chan none, .chan none, .chan none, .chan none, .chan none, .chan none, .chan none, .chan none, .chan none, .chan none, .chan none, .chan none, .chan none, .chan none, .chan none, .chan none, .chan none, .chan none, .chan none, .chan none, .chan none, .chan none, .chan none, .chan none, .chan none, .chan none, .chan none, .chan none, .chan none, .chan none, .chan none, .chan none, .chan none, .chan none, .chan none, .chan none, .chan none, .chan none, .chan none, .chan none, .chan none, .chan none, .chan none, .chan none, .chan none, .chan none, .chan none, .chan none, .chan none, .chan none, .chan none, .chan none, .chan none, .chan none, .chan none, .chan none, .chan none, .chan none, .chan none, .chan none, .chan none, .chan none, .chan none]) (n := m) rfl ⟨0, 0, rfl, by omega, fun j t hj => by omega, by omega, by omega, rfl, rfl⟩ ?_
    rintro q a L₁ ⟨i, S, rfl, hi, hall, hS0, hS1, hLL, rfl⟩
    subst hLL
    rcases Nat.lt_or_ge i m with him | him
    case inr =>
      have hbi : (!ileB (m : Int) (i : Nat)) = false := by rw [ileB_eq]; simp; omega
      repeat refine LS.seq ?_
      refine LS.region rfl ?_
      refine OS.pure rfl (fun _ => rfl) rfl ?_
      refine OS.pure rfl (fun _ => rfl) rfl ?_
      refine OS.pure rfl (e_len hl rfl rfl rfl rfl rfl) rfl ?_
      refine OS.pure rfl (e_is (fun _ => rfl) (congrArg Value.bool hbi)) rfl ?_
      refine OS.nil ?_
      repeat refine LS.seq ?_
      refine LS.cond rfl (fun hc => by cases hc) (fun hc => ?_)
      refine LS.exit ?_
      refine ⟨fun t ht => ?_, S, rfl, rfl⟩
      obtain ⟨j, hj⟩ := List.mem_iff_getElem?.1 ht
      have hjl := (List.getElem?_eq_some_iff.1 hj).1
      exact hall j t (by omega) hj
    have hbi : (!ileB (m : Int) (i : Nat)) = true := by rw [ileB_eq]; simp; omega
    repeat refine LS.seq ?_
    refine LS.region rfl ?_
    refine OS.pure rfl (fun _ => rfl) rfl ?_
    refine OS.pure rfl (fun _ => rfl) rfl ?_
    refine OS.pure rfl (e_len hl rfl rfl rfl rfl rfl) rfl ?_
    refine OS.pure rfl (e_is (fun _ => rfl) (congrArg Value.bool hbi)) rfl ?_
    refine OS.nil ?_
    repeat refine LS.seq ?_
    refine LS.cond rfl (fun hc => ?_) (fun hc => by cases hc)
    refine LS.skip ?_
    obtain ⟨t, ht⟩ : ∃ t, ts[i]? = some t := ⟨_, List.getElem?_eq_getElem (by omega)⟩
    have hc1 := hcell i t ht 1 (by omega)
    repeat refine LS.seq ?_
    refine LS.block ?_
    by_cases h0 : t.n < 0
    · have hb0 : (!ileB 0 t.n) = true := by rw [ileB_eq]; simpa using h0
      repeat refine LS.seq ?_
      refine LS.region rfl ?_
      refine OS.pure rfl (fun _ => rfl) rfl ?_
      refine OS.pure rfl (fun _ => rfl) rfl ?_
      refine OS.at (j := i) hl him rfl rfl rfl rfl rfl rfl (fun r0 o0 row0 cs0 m0 c0 g0 k0 => ?_)
      refine ⟨_, rfl, ?_⟩
      refine OS.pure rfl (fun _ => rfl) rfl ?_
      refine OS.read rfl (e_loadm m0 c0 rfl rfl (part_one rfl (g0 1 _ (by omega) hc1))) rfl ?_
      refine OS.pure rfl (e_is (fun _ => rfl) (congrArg Value.bool hb0)) rfl ?_
      refine OS.pure rfl (fun _ => rfl) rfl ?_
      refine OS.skip rfl rfl ?_
      refine OS.skip rfl rfl ?_
      refine OS.skip rfl rfl ?_
      refine OS.skip rfl rfl ?_
      refine OS.skip rfl rfl ?_
      refine OS.skip rfl rfl ?_
      refine OS.pure rfl (fun _ => rfl) rfl ?_
      refine OS.nil ?_
      refine LS.cond rfl (fun hc => ?_) (fun hc => by cases hc)
      repeat refine LS.seq ?_
      refine LS.region rfl ?_
      refine OS.call noGo rfl (fun _ => rfl) ((awake_ct).mono ?_)
      rintro v L' ⟨rfl, hLL⟩
      refine ⟨_, rfl, ?_⟩
      refine OS.pure rfl (fun _ => rfl) rfl ?_
      refine OS.nil ?_
      refine LS.ret ⟨_, fun _ _ => rfl, ?_⟩
      rfl
    have hb0 : (!ileB 0 t.n) = false := by rw [ileB_eq]; simp; omega
    by_cases h1 : 100000 < t.n
    · have hb1 : (!ileB t.n 100000) = true := by rw [ileB_eq]; simpa using h1
      repeat refine LS.seq ?_
      refine LS.region rfl ?_
      refine OS.pure rfl (fun _ => rfl) rfl ?_
      refine OS.pure rfl (fun _ => rfl) rfl ?_
      refine OS.at (j := i) hl him rfl rfl rfl rfl rfl rfl (fun r0 o0 row0 cs0 m0 c0 g0 k0 => ?_)
      refine ⟨_, rfl, ?_⟩
      refine OS.pure rfl (fun _ => rfl) rfl ?_
      refine OS.read rfl (e_loadm m0 c0 rfl rfl (part_one rfl (g0 1 _ (by omega) hc1))) rfl ?_
      refine OS.pure rfl (e_is (fun _ => rfl) (congrArg Value.bool hb0)) rfl ?_
      refine OS.pure rfl (fun _ => rfl) rfl ?_
      refine OS.pure rfl (fun _ => rfl) rfl ?_
      refine OS.pure rfl (fun _ => rfl) rfl ?_
      refine OS.at (j := i) hl him rfl rfl rfl rfl rfl rfl (fun r0 o0 row0 cs0 m0 c0 g0 k0 => ?_)
      refine ⟨_, rfl, ?_⟩
      refine OS.pure rfl (fun _ => rfl) rfl ?_
      refine OS.read rfl (e_loadm m0 c0 rfl rfl (part_one rfl (g0 1 _ (by omega) hc1))) rfl ?_
      refine OS.pure rfl (e_is (fun _ => rfl) (congrArg Value.bool hb1)) rfl ?_
      refine OS.pure rfl (fun _ => rfl) rfl ?_
      refine OS.nil ?_
      refine LS.cond rfl (fun hc => ?_) (fun hc => by cases hc)
      repeat refine LS.seq ?_
      refine LS.region rfl ?_
      refine OS.call noGo rfl (fun _ => rfl) ((awake_ct).mono ?_)
      rintro v L' ⟨rfl, hLL⟩
      refine ⟨_, rfl, ?_⟩
      refine OS.pure rfl (fun _ => rfl) rfl ?_
      refine OS.nil ?_
      refine LS.ret ⟨_, fun _ _ => rfl, ?_⟩
      rfl
    have hb1 : (!ileB t.n 100000) = false := by rw [ileB_eq]; simp; omega
    repeat refine LS.seq ?_
    refine LS.region rfl ?_
    refine OS.pure rfl (fun _ => rfl) rfl ?_
    refine OS.pure rfl (fun _ => rfl) rfl ?_
    refine OS.at (j := i) hl him rfl rfl rfl rfl rfl rfl (fun r0 o0 row0 cs0 m0 c0 g0 k0 => ?_)
    refine ⟨_, rfl, ?_⟩
    refine OS.pure rfl (fun _ => rfl) rfl ?_
    refine OS.read rfl (e_loadm m0 c0 rfl rfl (part_one rfl (g0 1 _ (by omega) hc1))) rfl ?_
    refine OS.pure rfl (e_is (fun _ => rfl) (congrArg Value.bool hb0)) rfl ?_
    refine OS.pure rfl (fun _ => rfl) rfl ?_
    refine OS.pure rfl (fun _ => rfl) rfl ?_
    refine OS.pure rfl (fun _ => rfl) rfl ?_
    refine OS.at (j := i) hl him rfl rfl rfl rfl rfl rfl (fun r1 o1 row1 cs1 m1 c1 g1 k1 => ?_)
    refine ⟨_, rfl, ?_⟩
    refine OS.pure rfl (fun _ => rfl) rfl ?_
    refine OS.read rfl (e_loadm m1 c1 rfl rfl (part_one rfl (g1 1 _ (by omega) hc1))) rfl ?_
    refine OS.pure rfl (e_is (fun _ => rfl) (congrArg Value.bool hb1)) rfl ?_
    refine OS.pure rfl (fun _ => rfl) rfl ?_
    refine OS.nil ?_
    refine LS.cond rfl (fun hc => by cases hc) (fun hc => ?_)
    refine LS.skip ?_
    repeat refine LS.seq ?_
    refine LS.region rfl ?_
    refine OS.pure rfl (fun _ => rfl) rfl ?_
    refine OS.pure rfl (fun _ => rfl) rfl ?_
    refine OS.pure rfl (fun _ => rfl) rfl ?_
    refine OS.at (j := i) hl him rfl rfl rfl rfl rfl rfl (fun r2 o2 row2 cs2 m2 c2 g2 k2 => ?_)
    refine ⟨_, rfl, ?_⟩
    refine OS.pure rfl (fun _ => rfl) rfl ?_
    refine OS.read rfl (e_loadm m2 c2 rfl rfl (part_one rfl (g2 1 _ (by omega) hc1))) rfl ?_
    refine OS.pure rfl (e_add (m := S) (n := t.n) rfl rfl rfl (in_i64 (by omega) (by omega))) rfl ?_
    refine OS.pure rfl (fun _ => rfl) rfl ?_
    refine OS.nil ?_
    repeat refine LS.seq ?_
    refine LS.region rfl ?_
    refine OS.pure rfl (fun _ => rfl) rfl ?_
    refine OS.pure rfl (e_add rfl rfl rfl (in_i64 (by omega) (by omega))) rfl ?_
    refine OS.pure rfl (fun _ => rfl) rfl ?_
    refine OS.nil ?_
    refine ⟨m - (i + 1), by omega, i + 1, S + t.n, rfl, by omega, fun j t' hj ht' => ?_, by omega, by omega, rfl, rfl⟩
    rcases Nat.lt_or_ge j i with h | h
    · exact hall j t' h ht'
    · have : j = i := by omega
      subst this
      rw [ht] at ht'; cases ht'
      omega
  rintro a L₁ ⟨hsz, S, hLL, rfl⟩
  subst hLL
  by_cases hSb : 300000 < S
  · have hb : (!ileB S 300000) = true := by rw [ileB_eq]; simpa using hSb
    repeat refine LS.seq ?_
    refine LS.region rfl ?_
    refine OS.pure rfl (fun _ => rfl) rfl ?_
    refine OS.pure rfl (e_is (fun _ => rfl) (congrArg Value.bool hb)) rfl ?_
    refine OS.nil ?_
    refine LS.cond rfl (fun hc => ?_) (fun hc => by cases hc)
    repeat refine LS.seq ?_
    refine LS.region rfl ?_
    refine OS.call noGo rfl (fun _ => rfl) ((awake_ct).mono ?_)
    rintro v L' ⟨rfl, hLL⟩
    refine ⟨_, rfl, ?_⟩
    refine OS.pure rfl (fun _ => rfl) rfl ?_
    refine OS.nil ?_
    refine LS.ret ⟨_, fun _ _ => rfl, ?_⟩
    rfl
  have hb : (!ileB S 300000) = false := by rw [ileB_eq]; simp; omega
  repeat refine LS.seq ?_
  refine LS.region rfl ?_
  refine OS.pure rfl (fun _ => rfl) rfl ?_
  refine OS.pure rfl (e_is (fun _ => rfl) (congrArg Value.bool hb)) rfl ?_
  refine OS.nil ?_
  refine LS.cond rfl (fun hc => by cases hc) (fun hc => ?_)
  refine LS.skip ?_
  repeat refine LS.seq ?_
  refine LS.region rfl ?_
  refine OS.call noGo rfl (fun _ => rfl) ((New_ct 512 (by omega) (by omega)).mono ?_)
  rintro v L₂ ⟨rd, rb, rfl, rfl⟩
  refine ⟨_, rfl, ?_⟩
  refine OS.pure rfl (fun _ => rfl) rfl ?_
  refine OS.pure rfl (fun _ => rfl) rfl ?_
  refine OS.pure rfl (fun _ => rfl) rfl ?_
  refine OS.pure rfl (fun _ => rfl) rfl ?_
  refine OS.pure rfl (fun _ => rfl) rfl ?_
  refine OS.nil ?_
  repeat refine LS.seq ?_
  refine LS.region rfl ?_
  refine OS.pure rfl (fun _ => rfl) rfl ?_
  refine OS.call noGo rfl (fun _ => rfl) ((Open_idle (s := dk0) dk0_ok rfl (blk_zeros (by omega))).mono ?_)
  rintro v L₂ ⟨rj, Y0, rfl, rfl⟩
  refine ⟨_, rfl, ?_⟩
  refine OS.pure rfl (fun _ => rfl) rfl ?_
  refine OS.pure rfl (fun _ => rfl) rfl ?_
  refine OS.pure rfl (fun _ => rfl) rfl ?_
  refine OS.pure rfl (fun _ => rfl) rfl ?_
  refine OS.pure rfl (fun _ => rfl) rfl ?_
  refine OS.nil ?_
  repeat refine LS.seq ?_
  refine LS.region rfl ?_
  refine OS.pure rfl (fun _ => rfl) rfl ?_
  refine OS.call noGo rfl (fun _ => rfl) ((Z.New_ct n (by omega)).mono ?_)
  rintro v L₂ ⟨rm, rf, rfl, rfl⟩
  refine ⟨_, rfl, ?_⟩
  refine OS.pure rfl (fun _ => rfl) rfl ?_
  refine OS.pure rfl (fun _ => rfl) rfl ?_
  refine OS.pure rfl (fun _ => rfl) rfl ?_
  refine OS.pure rfl (fun _ => rfl) rfl ?_
  refine OS.pure rfl (fun _ => rfl) rfl ?_
  refine OS.sub (Sub.pulls [4, 4, 4] rfl) ?_
  refine OS.nil ?_
  repeat refine LS.seq ?_
  refine LS.region rfl ?_
  refine OS.pure rfl (fun _ => rfl) rfl ?_
  refine OS.pure rfl (fun _ => rfl) rfl ?_
  refine OS.call noGo rfl (fun _ => rfl) ((Open_ct (base := 150) (by omega) (by simp; omega) (by simp)).mono ?_)
  rintro v L₂ ⟨rD, rfl, rfl⟩
  refine ⟨_, rfl, ?_⟩
  refine OS.pure rfl (fun _ => rfl) rfl ?_
  refine OS.pure rfl (fun _ => rfl) rfl ?_
  refine OS.pure rfl (fun _ => rfl) rfl ?_
  refine OS.pure rfl (fun _ => rfl) rfl ?_
  refine OS.pure rfl (fun _ => rfl) rfl ?_
  refine OS.nil ?_
  repeat refine LS.seq ?_
  refine LS.region rfl ?_
  refine OS.pure rfl (fun _ => rfl) rfl ?_
  refine OS.pure rfl (fun _ => rfl) rfl ?_
  refine OS.pure rfl (fun _ => rfl) rfl ?_
  refine OS.pure rfl (fun _ => rfl) rfl ?_
  refine OS.pure rfl (fun _ => rfl) rfl ?_
  refine OS.pure rfl (fun _ => rfl) rfl ?_
  refine OS.pure rfl (fun _ => rfl) rfl ?_
  refine OS.pure rfl (fun _ => rfl) rfl ?_
  refine OS.pure rfl (fun _ => rfl) rfl ?_
  refine OS.pure rfl (fun _ => rfl) rfl ?_
  refine OS.pure rfl (fun _ => rfl) rfl ?_
  refine OS.pure rfl (fun _ => rfl) rfl ?_
  refine OS.pure rfl (fun _ => rfl) rfl ?_
  refine OS.pure rfl (fun _ => rfl) rfl ?_
  refine OS.nil ?_
  refine LS.cond rfl (fun hc => by cases hc) (fun hc => ?_)
  refine LS.skip ?_
  repeat refine LS.seq ?_
  refine LS.region rfl ?_
  refine OS.pure rfl (fun _ => rfl) rfl ?_
  refine OS.call noGo rfl (fun _ => rfl) ((xNew_ct n (by omega)).mono ?_)
  rintro v L₂ ⟨x, X, rfl, hX, rfl⟩
  refine ⟨_, rfl, ?_⟩
  refine OS.pure rfl (fun _ => rfl) rfl ?_
  refine OS.sub (Sub.sums (A := bl ⟨rD, rj, rd, rb, rm, rf, 150⟩ dk0 (List.replicate n false) (X ++ (Y0 ++ L₁))) fun f => by simp [bl, Z.fm] <;> omega) ?_
  refine OS.nil ?_
  repeat refine LS.seq ?_
  refine LS.region rfl ?_
  refine OS.pure rfl (fun _ => rfl) rfl ?_
  refine OS.nil ?_
  have hm50 : m ≤ 50 := by omega
  repeat refine LS.seq ?_
  refine LS.block ?_
  refine LS.loopJ [1, 5, 8, 12, 14, 16, 17] (fun q a L₂ => ∃ (i : Nat), q = m - i ∧ i ≤ m ∧ PI L₁ lv n i i a L₂) (n := m) rfl ⟨0, rfl, by omega, ⟨rD, rj, rd, rb, rm, rf, 150⟩, dk0, List.replicate n false, [], List.replicate n (-1), fun _ => none, x, X, Y0, ⟨W8.fresh rfl (by omega), rfl, RX.init .., TH.init _⟩, fun h => (by cases h), hX, rfl, rfl⟩ ?_
  rintro q a L₂ ⟨i, rfl, hi, c, s, T, V, H, g, x, X, Y, hTw, hcut, hX, rfl, rfl⟩
  have hlL : SV 4 (bl c s T (X ++ (Y ++ L₁))) lv m (ts.flatMap Qp.cells) := hl.mono (fun p hp => by simp [hp])
  rcases Nat.lt_or_ge i m with him | him
  case inr =>
    have hbi : (!ileB (m : Int) (i : Nat)) = false := by rw [ileB_eq]; simp; omega
    repeat refine LS.seq ?_
    refine LS.region rfl ?_
    refine OS.pure rfl (fun _ => rfl) rfl ?_
    refine OS.pure rfl (fun _ => rfl) rfl ?_
    refine OS.pure rfl (e_len hlL rfl rfl rfl rfl rfl) rfl ?_
    refine OS.pure rfl (e_is (fun _ => rfl) (congrArg Value.bool hbi)) rfl ?_
    refine OS.nil ?_
    repeat refine LS.seq ?_
    refine LS.cond rfl (fun hc => by cases hc) (fun hc => ?_)
    refine LS.exit ?_
    repeat refine LS.seq ?_
    refine LS.region rfl ?_
    refine OS.call noGo rfl (fun _ => rfl) ((awake_ct).mono ?_)
    rintro v L' ⟨rfl, hLL⟩
    refine ⟨_, rfl, ?_⟩
    refine OS.pure rfl (fun _ => rfl) rfl ?_
    refine OS.nil ?_
    refine LS.ret ⟨_, fun _ _ => rfl, ?_⟩
    rfl
  have hbi : (!ileB (m : Int) (i : Nat)) = true := by rw [ileB_eq]; simp; omega
  repeat refine LS.seq ?_
  refine LS.region rfl ?_
  refine OS.pure rfl (fun _ => rfl) rfl ?_
  refine OS.pure rfl (fun _ => rfl) rfl ?_
  refine OS.pure rfl (e_len hlL rfl rfl rfl rfl rfl) rfl ?_
  refine OS.pure rfl (e_is (fun _ => rfl) (congrArg Value.bool hbi)) rfl ?_
  refine OS.nil ?_
  repeat refine LS.seq ?_
  refine LS.cond rfl (fun hc => ?_) (fun hc => by cases hc)
  refine LS.skip ?_
  obtain ⟨t, ht⟩ : ∃ t, ts[i]? = some t := ⟨_, List.getElem?_eq_getElem (by omega)⟩
  have htz := hsz t (List.mem_of_getElem? ht)
  have htc := qps_cut ht
  clear ht
  obtain ⟨tk, tn, tc, tp⟩ := t
  simp only at htz
  obtain ⟨N, rfl⟩ : ∃ N : Nat, tn = (N : Int) := ⟨tn.toNat, by omega⟩
  have hN : N ≤ 100000 := by omega
  obtain ⟨hHn, hTn, hn300⟩ := hTw.n
  obtain ⟨I, hI⟩ : ∃ I, I = idsH H := ⟨_, rfl⟩
  have hIl : I.length ≤ 300 := by rw [hI]; have := filter_len (fun i => decide (H[i]? = some (i : Int))) H.length; unfold idsH; omega
  repeat refine LS.seq ?_
  refine LS.block ?_
  repeat refine LS.seq ?_
  refine LS.region rfl ?_
  refine OS.pure rfl (fun _ => rfl) rfl ?_
  refine OS.pure rfl (fun _ => rfl) rfl ?_
  refine OS.at (j := i) hlL him rfl rfl rfl rfl rfl rfl (fun r0 o0 row0 cs0 m0 c0 g0 k0 => ?_)
  refine ⟨_, rfl, ?_⟩
  refine OS.read rfl (e_loadm m0 c0 rfl rfl (part_agg rfl rfl (k0 _ htc))) rfl ?_
  refine OS.fresh rfl (e_new (fun _ => rfl) rfl) (fun _ => rfl) (fun rO => ?_)
  refine OS.write rfl (e_store 0 rfl rfl rfl rfl rfl rfl rfl rfl) rfl ?_
  obtain ⟨row, hrow⟩ : ∃ row : ARow, row = .cells 26 [.int .u8 (tk.toNat : Nat), .int .i64 (N : Nat), .int .u8 (tc.toNat : Nat), .int .i64 tp] := ⟨_, rfl⟩
  obtain ⟨G, hG⟩ : ∃ G : RL, G = (rO, row) :: (Y ++ L₁) := ⟨_, rfl⟩
  have hmO : ∀ (c : Whr) (s : Dk) (T : List Bool) (X : RL), (rO, ARow.cells 26 [.int .u8 (tk.toNat : Nat), .int .i64 (N : Nat), .int .u8 (tc.toNat : Nat), .int .i64 tp]) ∈ bl c s T (X ++ G) := fun c s T X => by rw [hG, hrow]; simp
  refine OS.sub (Sub.sums (A := bl c s T (X ++ G)) fun f => by rw [hG, hrow]; simp [bl, Z.fm] <;> omega) ?_
  obtain ⟨Yg, hGs⟩ : ∃ Yg, G = Yg ++ L₁ := ⟨(rO, row) :: Y, hG⟩
  clear hG hrow m0 c0 g0 k0
  refine OS.nil ?_
  repeat refine LS.seq ?_
  refine LS.region rfl ?_
  refine OS.pure rfl (fun _ => rfl) rfl ?_
  refine OS.call noGo rfl (fun _ => rfl) ((bIds_ct hX (by omega)).mono ?_)
  rintro v L' ⟨Yi, hgI, rfl⟩
  rw [← hI] at hgI
  have hsI : SV 1 (bl c s T (X ++ (Yi ++ G))) v I.length (ints I) := hgI.sv.mono (fun p hp => by simp [hp])
  have hmY : (rO, ARow.cells 26 [.int .u8 (tk.toNat : Nat), .int .i64 (N : Nat), .int .u8 (tc.toNat : Nat), .int .i64 tp]) ∈ bl c s T (X ++ (Yi ++ G)) := by rw [← List.append_assoc]; exact hmO c s T (X ++ Yi)
  refine ⟨_, rfl, ?_⟩
  refine OS.pure rfl (fun _ => rfl) rfl ?_
  refine OS.nil ?_
  repeat refine LS.seq ?_
  refine LS.region rfl ?_
  refine OS.pure rfl (fun _ => rfl) rfl ?_
  refine OS.nil ?_
  refine LS.seq ?_
  refine LS.mid [1, 5, 8, 12, 14, 16, 17, 18, 20] (fun a L₂ => ∃ (z : Int), (z = -1 ∨ ∃ v ∈ V, z = (wid v : Nat)) ∧ L₂ = bl c s T (X ++ (Yi ++ G)) ∧
    a = [.chan none, lv, .chan none, .chan none, .chan none, .int .i64 (n : Nat), .chan none, .chan none, ptr c.rd, .chan none, .chan none, .chan none, ptr c.rm, .chan none, ptr c.rD, .chan none, ptr x, .int .i64 (i : Nat), ptr rO, .chan none, .int .i64 z, .chan none, .chan none, .chan none, .chan none, .chan none, .chan none, .chan none, .chan none, .chan none, .chan none, .chan none, .chan none, .chan none, .chan none, .chan none, .chan none, .chan none, .chan none, .chan none, .chan none, .chan none, .chan none, .chan none, .chan none, .chan none, .chan none, .chan none, .chan none, .chan none, .chan none, .chan none, .chan none, .chan none, .chan none, .chan none, .chan none, .chan none, .chan none, .chan none, .chan none, .chan none, .chan none, .chan none, .chan none, .chan none, .chan none, .chan none, .chan none, .chan none, .chan none, .chan none, .chan none, .chan none, .chan none, .chan none, .chan none, .chan none, .chan none, .chan none, .chan none, .chan none, .chan none, .chan none, .chan none, .chan none, .chan none, .chan none, .chan none, .chan none, .chan none, .chan none, .chan none, .chan none, .chan none, .chan none, .chan none, .chan none, .chan none, .chan none, .chan none, .chan none, .chan none, .chan none, .chan none, .chan none, .chan none, .chan none, .chan none, .chan none, .chan none, .chan none, .chan none, .chan none, .chan none, .chan none, .chan none, .chan none, .chan none, .chan none, .chan none, .chan none, .chan none, .chan none, .chan none, .chan none, .chan none, .chan none, .chan none, .chan none, .chan none, .chan none, .chan none, .chan none, .chan none, .chan none, .chan none, .chan none, .chan none, .chan none, .chan none, .chan none, .chan none, .chan none, .chan none, .chan none, .chan none, .chan none, .chan none, .chan none, .chan none, .chan none, .chan none, .chan none, .chan none, .chan none, .chan none, .chan none, .chan none, .chan none, .chan none, .chan none, .chan none, .chan none, .chan none, .chan none, .chan none, .chan none, .chan none, .chan none, .chan none, .chan none, .chan none, .chan none, .chan none, .chan none, .chan none, .chan none, .chan none, .chan none, .chan none, .chan none, .chan none, .chan none, .chan none, .chan none, .chan none, .chan none, .chan none, .chan none, .chan none, .chan none, .chan none, .chan none, .chan none, .chan none, .chan none, .chan none, .chan none, .chan none, .chan none, .chan none, .chan none, .chan none, .chan none, .chan none, .chan none, .chan none, .chan none, .chan none, .chan none, .chan none, .chan none, .chan none, .chan none, .chan none, .chan none, .chan none, .chan none, .chan none, .chan none, .chan none, .chan none, .chan none, .chan none, .chan none, .chan none, .chan none, .chan none, .chan none, .chan none, .chan none, .chan none, .chan none, .chan none, .chan none, .chan none, .chan none, .chan none, .chan none, .chan none, .chan none, .chan none, .chan none, .chan none, .chan none, .chan none, .chan none, .chan none, .chan none, .chan none, .chan none, .chan none, .chan none, .chan none, .chan none, .chan none, .chan none, .chan none, .chan none, .chan none, .chan none, .chan none, .chan none, .chan none, .chan none, .chan none, .chan none, .chan none, .chan none, .chan none, .chan none, .chan none, .chan none, .chan none, .chan none, .chan none, .chan none, .chan none, .chan none, .chan none, .chan none, .chan none, .chan none, .chan none, .chan none, .chan none, .chan none, .chan none, .chan none, .chan none, .chan none, .chan none, .chan none, .chan none, .chan none, .chan none, .chan none, .chan none, .chan none, .chan none, .chan none, .chan none, .chan none, .chan none, .chan none, .chan none, .chan none, .chan none, .chan none, .chan none, .chan none, .chan none, .chan none, .chan none, .chan none, .chan none, .chan none, .chan none, .chan none, .chan none, .chan none, .chan none, .chan none, .chan none]) ?_ ?_
  · rcases Nat.eq_zero_or_pos I.length with hI0 | hI0
    · have hb : (!ileB (I.length : Int) 0) = false := by rw [hI0]; rfl
      repeat refine LS.seq ?_
      refine LS.region rfl ?_
      refine OS.pure rfl (fun _ => rfl) rfl ?_
      refine OS.pure rfl (e_len hsI rfl rfl rfl rfl rfl) rfl ?_
      refine OS.pure rfl (e_is (fun _ => rfl) (congrArg Value.bool hb)) rfl ?_
      refine OS.nil ?_
      refine LS.cond rfl (fun hc => by cases hc) (fun hc => ?_)
      refine LS.skip ?_
      exact ⟨-1, .inl rfl, rfl, rfl⟩
    · have hb : (!ileB (I.length : Int) 0) = true := by rw [ileB_eq, Bool.not_eq_true', decide_eq_false_iff_not]; omega
      obtain ⟨j, hj⟩ : ∃ j, j = uns tp % I.length := ⟨_, rfl⟩
      have hjl : j < I.length := by rw [hj]; exact Nat.mod_lt _ hI0
      obtain ⟨k, hk⟩ : ∃ k, I[j]? = some k := ⟨_, List.getElem?_eq_getElem hjl⟩
      repeat refine LS.seq ?_
      refine LS.region rfl ?_
      refine OS.pure rfl (fun _ => rfl) rfl ?_
      refine OS.pure rfl (e_len hsI rfl rfl rfl rfl rfl) rfl ?_
      refine OS.pure rfl (e_is (fun _ => rfl) (congrArg Value.bool hb)) rfl ?_
      refine OS.nil ?_
      refine LS.cond rfl (fun hc => ?_) (fun hc => by cases hc)
      repeat refine LS.seq ?_
      refine LS.region rfl ?_
      refine OS.pure rfl (fun _ => rfl) rfl ?_
      refine OS.pure rfl (fun _ => rfl) rfl ?_
      refine OS.read rfl (e_loadm hmY rfl rfl rfl (part_one rfl rfl)) rfl ?_
      refine OS.pure rfl (e_uns rfl rfl rfl rfl) rfl ?_
      refine OS.pure rfl (fun _ => rfl) rfl ?_
      refine OS.pure rfl (e_len hsI rfl rfl rfl rfl rfl) rfl ?_
      refine OS.pure rfl (e_is (e_uns rfl rfl rfl rfl) (congrArg (fun x : Nat => Value.int .u64 (x : Int)) (uns_nat (n := I.length) (by omega)))) rfl ?_
      refine OS.pure rfl (e_is (e_rem (m := uns tp) (n := I.length) rfl rfl rfl (by omega)) (congrArg (fun x : Nat => Value.int .u64 (x : Int)) hj.symm)) rfl ?_
      refine OS.pure rfl (e_conv (k' := .i64) rfl rfl rfl rfl (in_i64 (by omega) (by omega))) rfl ?_
      refine OS.at1 (j := j) (hsI) ((show _ = some (Value.int .i64 (k : Nat)) by simp [hk])) rfl rfl rfl rfl rfl rfl (fun ra0 oa0 rowa0 csa0 ma0 ca0 ga0 => ⟨_, rfl, ?_⟩)
      refine OS.read rfl (e_loadm ma0 ca0 rfl rfl (part_one rfl ga0)) rfl ?_
      refine OS.pure rfl (fun _ => rfl) rfl ?_
      refine OS.nil ?_
      obtain ⟨v, hv, hvk⟩ := hTw.R.id (D := s.D) (base := 150) (T := T) (k := k) (by rw [← hI]; exact List.mem_of_getElem? hk)
      exact ⟨(k : Nat), .inr ⟨v, hv, by rw [hvk]⟩, rfl, rfl⟩
  rintro a L₂ ⟨z, hz, rfl, rfl⟩
  repeat refine LS.seq ?_
  refine LS.region rfl ?_
  refine OS.pure rfl (fun _ => rfl) rfl ?_
  refine OS.read rfl (e_loadm hmY rfl rfl rfl (part_one rfl rfl)) rfl ?_
  refine OS.nil ?_
  refine LS.mid [1, 5, 8, 12, 14, 16, 17] (fun a L₂ => PI L₁ lv n (i + 1) i a L₂) ?_ ?_
  · obtain ⟨F, hF⟩ : ∃ F, F = Yi ++ G := ⟨_, rfl⟩
    have hm : ∀ (c : Whr) (s : Dk) (T : List Bool) (X Y : RL), (rO, ARow.cells 26 [.int .u8 (tk.toNat : Nat), .int .i64 (N : Nat), .int .u8 (tc.toNat : Nat), .int .i64 tp]) ∈ bl c s T (X ++ (Y ++ F)) := fun c s T X Y => by
      have := hmO c s T (X ++ (Y ++ Yi))
      rw [hF]; simpa [List.append_assoc] using this
    obtain ⟨Y9, hF9⟩ : ∃ Y9, F = Y9 ++ L₁ := ⟨Yi ++ Yg, by rw [hF, hGs, List.append_assoc]⟩
    rw [← hF]
    clear hF hmY hsI hgI hmO hGs
    have hTw' : Tw c s T V H g n (1000 * (i + 1)) := ⟨hTw.W.mono (by omega), hTw.d, hTw.R, hTw.T⟩
    have hcut' : s.cut = true → 1000 * (60 - (i + 1)) ≤ s.left := fun h => by have := hcut h; omega
    have hfl := Z.frees_le T
    repeat refine LS.seq ?_
    refine LS.block ?_
    by_cases h0 : tk.toNat = 0
    · have hq0 : ieqB ((tk.toNat : Nat) : Int) 0 = true := by rw [h0]; rfl
      obtain ⟨d, hd⟩ : ∃ d, d = valB N tc := ⟨_, rfl⟩
      have hdl : d.length = N := by rw [hd, valB_len]
      obtain ⟨k, hk⟩ : ∃ k, k = need N := ⟨_, rfl⟩
      have hnn : need d.length = k := by rw [hdl, hk]
      have hk2 := need_two N
      repeat refine LS.seq ?_
      refine LS.region rfl ?_
      refine OS.pure rfl (e_is (fun _ => rfl) (congrArg Value.bool hq0)) rfl ?_
      refine OS.pure rfl (fun _ => rfl) rfl ?_
      refine OS.nil ?_
      refine LS.cond rfl (fun hc => ?_) (fun hc => by cases hc)
      repeat refine LS.seq ?_
      refine LS.region rfl ?_
      refine OS.pure rfl (fun _ => rfl) rfl ?_
      refine OS.call noGo rfl (fun _ => rfl) ((pWrites_ct).mono ?_)
      rintro v L' ⟨rfl, rfl⟩
      refine ⟨_, rfl, ?_⟩
      refine OS.pure rfl (fun _ => rfl) rfl ?_
      refine OS.nil ?_
      repeat refine LS.seq ?_
      refine LS.region rfl ?_
      refine OS.pure rfl (fun _ => rfl) rfl ?_
      refine OS.pure rfl (fun _ => rfl) rfl ?_
      refine OS.read rfl (e_loadm (hm c s T X []) rfl rfl rfl (part_one rfl rfl)) rfl ?_
      refine OS.pure rfl (fun _ => rfl) rfl ?_
      refine OS.read rfl (e_loadm (hm c s T X []) rfl rfl rfl (part_one rfl rfl)) rfl ?_
      refine OS.call noGo rfl (fun _ => rfl) ((value_ct N tc (by omega)).mono ?_)
      rintro v L' ⟨rfl, rfl⟩
      rw [← hd]
      refine ⟨_, rfl, ?_⟩
      refine OS.call noGo rfl (fun _ => rfl) ((Put_any (data := d) hTw.W (by omega) hTw.d (by omega) hnn).mono ?_)
      rintro v L' ⟨Y3, hv⟩
      rcases hv with ⟨hf, rfl, rfl⟩ | ⟨hf, hct, rfl, rfl⟩ | ⟨hf, hct, hlt, _, _⟩
      case inr.inr => have := hcut hct; omega
      · refine ⟨_, rfl, ?_⟩
        refine OS.sub (Sub.sums (A := bl c s T (X ++ (Y3 ++ F))) fun f => by simp [bl, Z.fm] <;> omega) ?_
        refine OS.pure rfl (fun _ => rfl) rfl ?_
        refine OS.pure rfl (fun _ => rfl) rfl ?_
        refine OS.pure rfl (fun _ => rfl) rfl ?_
        refine OS.pure rfl (fun _ => rfl) rfl ?_
        refine OS.pure rfl (fun _ => rfl) rfl ?_
        refine OS.nil ?_
        repeat refine LS.seq ?_
        refine LS.region rfl ?_
        refine OS.pure rfl (fun _ => rfl) rfl ?_
        refine OS.pure rfl (fun _ => rfl) rfl ?_
        refine OS.read rfl (e_loadm (hm c s T X Y3) rfl rfl rfl (part_one rfl rfl)) rfl ?_
        refine OS.pure rfl (fun _ => rfl) rfl ?_
        refine OS.read rfl (e_loadm (hm c s T X Y3) rfl rfl rfl (part_one rfl rfl)) rfl ?_
        refine OS.call noGo rfl (fun _ => rfl) ((value_ct N tc (by omega)).mono ?_)
        rintro v L' ⟨rfl, rfl⟩
        rw [← hd]
        refine ⟨_, rfl, ?_⟩
        refine OS.call noGo rfl (fun _ => rfl) ((bxFull_ct hX hTw.T (by omega) (by omega) hnn hf).mono ?_)
        rintro v L' ⟨rfl, rfl⟩
        refine ⟨_, rfl, ?_⟩
        refine OS.pure rfl (fun _ => rfl) rfl ?_
        refine OS.pure rfl (fun _ => rfl) rfl ?_
        refine OS.pure rfl (fun _ => rfl) rfl ?_
        refine OS.pure rfl (fun _ => rfl) rfl ?_
        refine OS.pure rfl (fun _ => rfl) rfl ?_
        refine OS.nil ?_
        repeat refine LS.seq ?_
        refine LS.drawn noGo mixed [(0, false), (1, false), (2, false), (3, false), (4, false), (5, false), (6, false), (7, false), (8, false), (9, false), (10, false), (11, false), (12, false), (14, false), (16, false), (17, false), (13, true), (15, false), (18, true), (19, false), (20, false), (21, false), (22, false), (23, false), (24, false), (25, false), (26, false), (28, false), (27, true), (29, false), (30, false), (31, false)] rfl rfl (by kernel_rfl) ?_
        refine ODS.pure rfl rfl (fun _ => rfl) rfl ?_
        refine ODS.pure rfl rfl (fun _ => rfl) rfl ?_
        refine ODS.pure rfl rfl (fun _ => rfl) rfl ?_
        refine ODS.pure rfl rfl (fun _ => rfl) rfl ?_
        refine ODS.pure rfl rfl (fun _ => rfl) rfl ?_
        refine ODS.pure rfl rfl (fun _ => rfl) rfl ?_
        refine ODS.pure rfl rfl (fun _ => rfl) rfl ?_
        refine ODS.pure rfl rfl (fun _ => rfl) rfl ?_
        refine ODS.pure rfl rfl (fun _ => rfl) rfl ?_
        refine ODS.pure rfl rfl (fun _ => rfl) rfl ?_
        refine ODS.pure rfl rfl (fun _ => rfl) rfl ?_
        refine ODS.pure rfl rfl (fun _ => rfl) rfl ?_
        refine ODS.skip rfl rfl rfl ?_
        refine ODS.skip rfl rfl rfl ?_
        refine ODS.skip rfl rfl rfl ?_
        refine ODS.skip rfl rfl rfl ?_
        refine ODS.skip rfl rfl rfl ?_
        refine ODS.skip rfl rfl rfl ?_
        refine ODS.skip rfl rfl rfl ?_
        refine ODS.skip rfl rfl rfl ?_
        refine ODS.pure rfl rfl (fun _ => rfl) rfl ?_
        refine ODS.pure rfl rfl (fun _ => rfl) rfl ?_
        refine ODS.pure rfl rfl (fun _ => rfl) rfl ?_
        refine ODS.pure rfl rfl (fun _ => rfl) rfl ?_
        refine ODS.pure rfl rfl (fun _ => rfl) rfl ?_
        refine ODS.pure rfl rfl (fun _ => rfl) rfl ?_
        refine ODS.pure rfl rfl (fun _ => rfl) rfl ?_
        refine ODS.pure rfl rfl (fun _ => rfl) rfl ?_
        refine ODS.call rfl rfl (fun _ => rfl) ((pWrites_ct).mono ?_)
        rintro v L' ⟨rfl, rfl⟩
        refine ⟨_, rfl, Keep.nil, ?_⟩
        refine ODS.pure rfl rfl (e_is (fun _ => rfl) (congrArg Value.bool (ne_same _))) rfl ?_
        refine ODS.pure rfl rfl (fun _ => rfl) rfl ?_
        refine ODS.pure rfl rfl (fun _ => rfl) rfl ?_
        refine ODS.nil ?_
        refine LS.cond rfl (fun hc => by cases hc) (fun hc => ?_)
        refine LS.skip ?_
        exact ⟨c, s, T, V, H, g, x, X, Y3 ++ Y9, hTw', hcut', hX, by rw [hF9, List.append_assoc], rfl⟩
      · have hWp := hTw.W.put (data := d) (by omega) hnn hf (by omega)
        have hRp := hTw.R.put (data := d) hTw.W.h hTw.T (show 0 < k by omega) hf
        have hTp := hTw.T.take (z := (Z.ff T : Nat)) (by omega) k
        refine ⟨_, rfl, ?_⟩
        refine OS.sub (Sub.sums (A := bl c (dkW s T k d) (Z.tkT T k) (X ++ (Y3 ++ F))) fun f => by simp [bl, Z.fm] <;> omega) ?_
        refine OS.pure rfl (fun _ => rfl) rfl ?_
        refine OS.pure rfl (fun _ => rfl) rfl ?_
        refine OS.pure rfl (fun _ => rfl) rfl ?_
        refine OS.pure rfl (fun _ => rfl) rfl ?_
        refine OS.pure rfl (fun _ => rfl) rfl ?_
        refine OS.nil ?_
        repeat refine LS.seq ?_
        refine LS.region rfl ?_
        refine OS.pure rfl (fun _ => rfl) rfl ?_
        refine OS.pure rfl (fun _ => rfl) rfl ?_
        refine OS.read rfl (e_loadm (hm c (dkW s T k d) (Z.tkT T k) X Y3) rfl rfl rfl (part_one rfl rfl)) rfl ?_
        refine OS.pure rfl (fun _ => rfl) rfl ?_
        refine OS.read rfl (e_loadm (hm c (dkW s T k d) (Z.tkT T k) X Y3) rfl rfl rfl (part_one rfl rfl)) rfl ?_
        refine OS.call noGo rfl (fun _ => rfl) ((value_ct N tc (by omega)).mono ?_)
        rintro v L' ⟨rfl, rfl⟩
        rw [← hd]
        refine ⟨_, rfl, ?_⟩
        refine OS.call noGo rfl (fun _ => rfl) ((bxPut_ct hX hTw.T (by omega) (by omega) hnn hf).mono ?_)
        rintro v L' ⟨rfl, X', hX', rfl⟩
        refine ⟨_, rfl, ?_⟩
        refine OS.pure rfl (fun _ => rfl) rfl ?_
        refine OS.pure rfl (fun _ => rfl) rfl ?_
        refine OS.pure rfl (fun _ => rfl) rfl ?_
        refine OS.pure rfl (fun _ => rfl) rfl ?_
        refine OS.pure rfl (fun _ => rfl) rfl ?_
        refine OS.nil ?_
        repeat refine LS.seq ?_
        refine LS.drawn noGo mixed [(0, false), (1, false), (2, false), (3, false), (4, false), (5, false), (6, false), (7, false), (8, false), (9, false), (10, false), (11, false), (12, false), (14, false), (16, false), (17, false), (13, true), (15, false), (18, true), (19, false), (20, false), (21, false), (22, false), (23, false), (24, false), (25, false), (26, false), (28, false), (27, true), (29, false), (30, false), (31, false)] rfl rfl (by kernel_rfl) ?_
        refine ODS.pure rfl rfl (fun _ => rfl) rfl ?_
        refine ODS.pure rfl rfl (fun _ => rfl) rfl ?_
        refine ODS.pure rfl rfl (e_is (fun _ => rfl) (congrArg Value.bool (ne_same _))) rfl ?_
        refine ODS.pure rfl rfl (fun _ => rfl) rfl ?_
        refine ODS.pure rfl rfl (fun _ => rfl) rfl ?_
        refine ODS.pure rfl rfl (fun _ => rfl) rfl ?_
        refine ODS.pure rfl rfl (fun _ => rfl) rfl ?_
        refine ODS.pure rfl rfl (fun _ => rfl) rfl ?_
        refine ODS.pure rfl rfl (fun _ => rfl) rfl ?_
        refine ODS.pure rfl rfl (fun _ => rfl) rfl ?_
        refine ODS.pure rfl rfl (fun _ => rfl) rfl ?_
        refine ODS.pure rfl rfl (fun _ => rfl) rfl ?_
        refine ODS.pure rfl rfl (fun _ => rfl) rfl ?_
        refine ODS.pure rfl rfl (fun _ => rfl) rfl ?_
        refine ODS.pure rfl rfl (fun _ => rfl) rfl ?_
        refine ODS.read rfl rfl (e_loadm (hm c (dkW s T k d) (Z.tkT T k) X' Y3) rfl rfl rfl (part_one rfl rfl)) rfl ?_
        refine ODS.call rfl rfl (fun _ => rfl) ((pWrites_ct).mono ?_)
        rintro v L' ⟨rfl, rfl⟩
        refine ⟨_, rfl, Keep.cons rfl (e_loadm (hm c (dkW s T k d) (Z.tkT T k) X' Y3) rfl rfl rfl (part_one rfl rfl)) Keep.nil, ?_⟩
        refine ODS.pure rfl rfl (e_is (e_sub (k := .i64) (m := ((s.wr + k : Nat) : Int)) (n := ((s.wr : Nat) : Int)) rfl rfl rfl (in_i64 (by omega) (by omega))) (congrArg (Value.int .i64) (show ((s.wr + k : Nat) : Int) - ((s.wr : Nat) : Int) = ((k : Nat) : Int) by omega))) rfl ?_
        refine ODS.call rfl rfl (fun _ => rfl) ((refNeed_ct N (by omega)).mono ?_)
        rintro v L' ⟨rfl, rfl⟩
        rw [← hk]
        refine ⟨_, rfl, Keep.gone rfl Keep.nil, ?_⟩
        refine ODS.pure rfl rfl (e_is (fun _ => rfl) (congrArg Value.bool (ne_same _))) rfl ?_
        refine ODS.pure rfl rfl (fun _ => rfl) rfl ?_
        refine ODS.pure rfl rfl (fun _ => rfl) rfl ?_
        refine ODS.pure rfl rfl (fun _ => rfl) rfl ?_
        refine ODS.pure rfl rfl (fun _ => rfl) rfl ?_
        refine ODS.pure rfl rfl (fun _ => rfl) rfl ?_
        refine ODS.pure rfl rfl (fun _ => rfl) rfl ?_
        refine ODS.skip rfl rfl rfl ?_
        refine ODS.skip rfl rfl rfl ?_
        refine ODS.skip rfl rfl rfl ?_
        refine ODS.skip rfl rfl rfl ?_
        refine ODS.pure rfl rfl (fun _ => rfl) rfl ?_
        refine ODS.pure rfl rfl (fun _ => rfl) rfl ?_
        refine ODS.nil ?_
        refine LS.cond rfl (fun hc => by cases hc) (fun hc => ?_)
        refine LS.skip ?_
        refine ⟨c, dkW s T k d, Z.tkT T k, V ++ [(Z.tkL T k, d)], _, _, x, X', Y3 ++ Y9, ⟨hWp.mono (by omega), rfl, hRp, hTp⟩, fun h => ?_, hX', by rw [hF9, List.append_assoc], rfl⟩
        have := hcut h
        show _ ≤ (if s.cut then s.left - k else s.left)
        rw [if_pos h]
        omega
    have hq0 : ieqB ((tk.toNat : Nat) : Int) 0 = false := by rw [ieqB_eq]; simp; omega
    repeat refine LS.seq ?_
    refine LS.region rfl ?_
    refine OS.pure rfl (e_is (fun _ => rfl) (congrArg Value.bool hq0)) rfl ?_
    refine OS.pure rfl (fun _ => rfl) rfl ?_
    refine OS.nil ?_
    refine LS.cond rfl (fun hc => by cases hc) (fun hc => ?_)
    by_cases h3 : tk.toNat = 3
    · have hq3 : ieqB ((tk.toNat : Nat) : Int) 3 = true := by rw [h3]; rfl
      repeat refine LS.seq ?_
      refine LS.region rfl ?_
      refine OS.pure rfl (e_is (fun _ => rfl) (congrArg Value.bool hq3)) rfl ?_
      refine OS.pure rfl (fun _ => rfl) rfl ?_
      refine OS.nil ?_
      refine LS.cond rfl (fun hc => ?_) (fun hc => by cases hc)
      rcases hz with rfl | ⟨y, hy, rfl⟩
      · repeat refine LS.seq ?_
        refine LS.region rfl ?_
        refine OS.pure rfl (fun _ => rfl) rfl ?_
        refine OS.pure rfl (fun _ => rfl) rfl ?_
        refine OS.nil ?_
        refine LS.cond rfl (fun hc => by cases hc) (fun hc => ?_)
        refine LS.skip ?_
        exact ⟨c, s, T, V, H, g, x, X, Y9, hTw', hcut', hX, by rw [hF9], rfl⟩
      · have hb : ileB 0 ((wid y : Nat) : Int) = true := ileB_iff.2 (by omega)
        have hV := hTw.W.val hy
        have hy0 := hV.wid
        have hyt := hTw.W.tk hy (List.mem_of_getElem? hy0)
        have hH0 : 0 < H.length := by have := (List.getElem?_eq_some_iff.1 (hTw.R.own y hy _ (List.mem_of_getElem? hy0))).1; omega
        repeat refine LS.seq ?_
        refine LS.region rfl ?_
        refine OS.pure rfl (fun _ => rfl) rfl ?_
        refine OS.pure rfl (e_is (fun _ => rfl) (congrArg Value.bool hb)) rfl ?_
        refine OS.nil ?_
        refine LS.cond rfl (fun hc => ?_) (fun hc => by cases hc)
        obtain ⟨A, B, rfl⟩ := List.append_of_mem hy
        have hWd := hTw.W.drop
        have hRd := hTw.R.drop hTw.W.h
        have hTd := hTw.T.drop hTw.R hTw.W.h
        have hgone : (decide (0 ≤ ((wid y : Nat) : Int) ∧ ((wid y : Nat) : Int) < (Z.giveL T y.1).length) && Z.tkn (Z.giveL T y.1) ((wid y : Nat) : Int).toNat) = false := by
          rw [Bool.and_eq_false_iff]
          right
          rw [Int.toNat_natCast, Z.giveL_tkn (fun x hx => hV.lt x hx)]
          simp [List.mem_of_getElem? hy0]
        repeat refine LS.seq ?_
        refine LS.region rfl ?_
        refine OS.pure rfl (fun _ => rfl) rfl ?_
        refine OS.call noGo rfl (fun _ => rfl) ((pWrites_ct).mono ?_)
        rintro v L' ⟨rfl, rfl⟩
        refine ⟨_, rfl, ?_⟩
        refine OS.pure rfl (fun _ => rfl) rfl ?_
        refine OS.nil ?_
        repeat refine LS.seq ?_
        refine LS.region rfl ?_
        refine OS.pure rfl (fun _ => rfl) rfl ?_
        refine OS.pure rfl (fun _ => rfl) rfl ?_
        refine OS.call noGo rfl (fun _ => rfl) ((Drop_ct hTw.W.ok hTw.d hV hy0 hyt).mono ?_)
        rintro v L' ⟨rfl, rfl⟩
        refine ⟨_, rfl, ?_⟩
        refine OS.pure rfl (fun _ => rfl) rfl ?_
        refine OS.pure rfl (fun _ => rfl) rfl ?_
        refine OS.pure rfl (fun _ => rfl) rfl ?_
        refine OS.call noGo rfl (fun _ => rfl) ((pWrites_ct).mono ?_)
        rintro v L' ⟨rfl, rfl⟩
        refine ⟨_, rfl, ?_⟩
        refine OS.pure rfl (fun _ => rfl) rfl ?_
        refine OS.pure rfl (e_is (fun _ => rfl) (congrArg Value.bool (ne_same _))) rfl ?_
        refine OS.pure rfl (fun _ => rfl) rfl ?_
        refine OS.nil ?_
        refine LS.cond rfl (fun hc => by cases hc) (fun hc => ?_)
        refine LS.skip ?_
        repeat refine LS.seq ?_
        refine LS.region rfl ?_
        refine OS.pure rfl (fun _ => rfl) rfl ?_
        refine OS.pure rfl (fun _ => rfl) rfl ?_
        refine OS.call noGo rfl (fun _ => rfl) ((bxDrop_ct (wid y) hX hH0 (by omega)).mono ?_)
        rintro v L' ⟨X', hX', rfl⟩
        refine ⟨_, rfl, ?_⟩
        refine OS.nil ?_
        repeat refine LS.seq ?_
        refine LS.region rfl ?_
        refine OS.pure rfl (fun _ => rfl) rfl ?_
        refine OS.pure rfl (fun _ => rfl) rfl ?_
        refine OS.call noGo rfl (fun _ => rfl) ((Get_none (by rw [Z.giveL_len]; omega) hTw.d ((wid y : Nat) : Int) hgone).mono ?_)
        rintro v L' ⟨rfl, rfl⟩
        refine ⟨_, rfl, ?_⟩
        refine OS.pure rfl (fun _ => rfl) rfl ?_
        refine OS.pure rfl (fun _ => rfl) rfl ?_
        refine OS.pure rfl (fun _ => rfl) rfl ?_
        refine OS.pure rfl (fun _ => rfl) rfl ?_
        refine OS.pure rfl (fun _ => rfl) rfl ?_
        refine OS.nil ?_
        repeat refine LS.seq ?_
        refine LS.region rfl ?_
        refine OS.pure rfl (fun _ => rfl) rfl ?_
        refine OS.pure rfl (fun _ => rfl) rfl ?_
        refine OS.nil ?_
        refine LS.cond rfl (fun hc => by cases hc) (fun hc => ?_)
        refine LS.skip ?_
        exact ⟨c, s, Z.giveL T y.1, A ++ B, _, _, x, X', Y9, ⟨hWd.mono (by omega), hTw.d, hRd, hTd⟩, hcut', hX', by rw [hF9], rfl⟩
    have hq3 : ieqB ((tk.toNat : Nat) : Int) 3 = false := by rw [ieqB_eq]; simp; omega
    repeat refine LS.seq ?_
    refine LS.region rfl ?_
    refine OS.pure rfl (e_is (fun _ => rfl) (congrArg Value.bool hq3)) rfl ?_
    refine OS.pure rfl (fun _ => rfl) rfl ?_
    refine OS.nil ?_
    refine LS.cond rfl (fun hc => by cases hc) (fun hc => ?_)
    by_cases h4 : tk.toNat = 4
    · have hq4 : ieqB ((tk.toNat : Nat) : Int) 4 = true := by rw [h4]; rfl
      obtain ⟨d, hd⟩ : ∃ d, d = valB 1000 tc := ⟨_, rfl⟩
      have hdl : d.length = 1000 := by rw [hd, valB_len]
      have hnn : need d.length = 5 := by rw [hdl]; rfl
      repeat refine LS.seq ?_
      refine LS.region rfl ?_
      refine OS.pure rfl (e_is (fun _ => rfl) (congrArg Value.bool hq4)) rfl ?_
      refine OS.pure rfl (fun _ => rfl) rfl ?_
      refine OS.nil ?_
      refine LS.cond rfl (fun hc => ?_) (fun hc => by cases hc)
      repeat refine LS.seq ?_
      refine LS.region rfl ?_
      refine OS.pure rfl (fun _ => rfl) rfl ?_
      refine OS.pure rfl (fun _ => rfl) rfl ?_
      refine OS.read rfl (e_loadm (hm c s T X []) rfl rfl rfl (part_one rfl rfl)) rfl ?_
      refine OS.call noGo rfl (fun _ => rfl) ((pCut_ct hTw.d N (by omega)).mono ?_)
      rintro v L' ⟨rfl, rfl⟩
      refine ⟨_, rfl, ?_⟩
      refine OS.nil ?_
      have hW1 : W8 c ⟨s.n, s.D, s.wr, true, N, s.dead⟩ T V (1000 * i) := hTw.W.cutAt (by omega)
      have hRX := hTw.R
      have hTH := hTw.T
      have hHd := hTw.W.h
      have hd1 : (⟨s.n, s.D, s.wr, true, N, s.dead⟩ : Dk).dead = false := hTw.d
      have hl1 : (⟨s.n, s.D, s.wr, true, N, s.dead⟩ : Dk).left = N := rfl
      generalize (⟨s.n, s.D, s.wr, true, N, s.dead⟩ : Dk) = s1 at hW1 hd1 hl1
      clear hTw' hcut' hcut hTw hlL hz
      refine LS.seq ?_
      refine LS.mid [1, 5, 8, 16, 17, 18, 30] (fun a L₂ => PM L₁ lv n i N rO x c T V X F d a L₂) ?_ ?_
      · repeat refine LS.seq ?_
        refine LS.region rfl ?_
        refine OS.pure rfl (fun _ => rfl) rfl ?_
        refine OS.pure rfl (fun _ => rfl) rfl ?_
        refine OS.read rfl (e_loadm (hm c s1 T X []) rfl rfl rfl (part_one rfl rfl)) rfl ?_
        refine OS.call noGo rfl (fun _ => rfl) ((value_ct 1000 tc (by omega)).mono ?_)
        rintro v L' ⟨rfl, rfl⟩
        rw [← hd]
        refine ⟨_, rfl, ?_⟩
        refine OS.call noGo rfl (fun _ => rfl) ((Put_any (data := d) hW1 (by omega) hd1 (by omega) hnn).mono ?_)
        rintro v L' ⟨Y3, hv⟩
        rcases hv with ⟨hf, rfl, rfl⟩ | ⟨hf, hct, rfl, rfl⟩ | ⟨hf, hct, hlt, rfl, rfl⟩
        · refine ⟨_, rfl, ?_⟩
          refine OS.sub (Sub.sums (A := bl c s1 T (X ++ (Y3 ++ F))) fun f => by simp [bl, Z.fm] <;> omega) ?_
          refine OS.pure rfl (fun _ => rfl) rfl ?_
          refine OS.pure rfl (fun _ => rfl) rfl ?_
          refine OS.pure rfl (fun _ => rfl) rfl ?_
          refine OS.pure rfl (fun _ => rfl) rfl ?_
          refine OS.pure rfl (fun _ => rfl) rfl ?_
          refine OS.nil ?_
          exact ⟨3, s1, T, V, Y3, hW1.mono (by omega), rfl, .inr (.inl ⟨rfl, hd1, rfl, rfl, hf⟩), rfl⟩
        · refine ⟨_, rfl, ?_⟩
          refine OS.sub (Sub.sums (A := bl c (dkW s1 T 5 d) (Z.tkT T 5) (X ++ (Y3 ++ F))) fun f => by simp [bl, Z.fm] <;> omega) ?_
          refine OS.pure rfl (fun _ => rfl) rfl ?_
          refine OS.pure rfl (fun _ => rfl) rfl ?_
          refine OS.pure rfl (fun _ => rfl) rfl ?_
          refine OS.pure rfl (fun _ => rfl) rfl ?_
          refine OS.pure rfl (fun _ => rfl) rfl ?_
          refine OS.nil ?_
          exact ⟨0, _, _, _, Y3, hW1.put (data := d) (by omega) hnn hf (by omega), rfl, .inr (.inr ⟨rfl, rfl, rfl, rfl, hf⟩), rfl⟩
        · refine ⟨_, rfl, ?_⟩
          refine OS.sub (Sub.sums (A := bl c (dkC s1 T 5 d) T (X ++ (Y3 ++ F))) fun f => by simp [bl, Z.fm] <;> omega) ?_
          refine OS.pure rfl (fun _ => rfl) rfl ?_
          refine OS.pure rfl (fun _ => rfl) rfl ?_
          refine OS.pure rfl (fun _ => rfl) rfl ?_
          refine OS.pure rfl (fun _ => rfl) rfl ?_
          refine OS.pure rfl (fun _ => rfl) rfl ?_
          refine OS.nil ?_
          exact ⟨20, _, T, V, Y3, hW1.cutPut (data := d) (by omega) hf hlt, rfl, .inl ⟨rfl, rfl, rfl, rfl, by omega, hf⟩, rfl⟩
      rintro a L₂ ⟨e, s2, T2, V2, Y2, hW2, rfl, hev, rfl⟩
      clear hW1 hd1 hl1
      have hok2 := hW2.ok.ok
      have hw2 := hW2.w
      refine LS.seq ?_
      refine LS.mid [1, 5, 8, 16, 17] (fun a L₂ => PK L₁ lv n i x a L₂) ?_ ?_
      · have hn5 : (need 1000 : Nat) = 5 := rfl
        have hfrH := hTH.frees
        rcases hev with ⟨rfl, hd2, rfl, rfl, hN5, hf5⟩ | ⟨rfl, hd2, rfl, rfl, hf5⟩ | ⟨rfl, hd2, rfl, rfl, hf5⟩
        · have hb1 : ileB ((need 1000 : Nat) : Int) ((N : Nat) : Int) = false := by rw [hn5, ileB_eq, decide_eq_false_iff_not]; omega
          have hb2 : (!ileB ((need 1000 : Nat) : Int) ((frH H : Nat) : Int)) = false := by rw [hn5, ileB_eq]; simp; omega
          repeat refine LS.seq ?_
          refine LS.region rfl ?_
          refine OS.pure rfl (fun _ => rfl) rfl ?_
          refine OS.pure rfl (fun _ => rfl) rfl ?_
          refine OS.nil ?_
          refine LS.cond rfl (fun hc => ?_) (fun hc => by cases hc)
          repeat refine LS.seq ?_
          refine LS.drawn noGo mixed [(0, false), (1, false), (2, true), (3, false), (4, false), (6, false), (5, true), (7, true), (8, false), (9, false)] rfl rfl (by kernel_rfl) ?_
          refine ODS.pure rfl rfl (fun _ => rfl) rfl ?_
          refine ODS.read rfl rfl (e_loadm (hm c s2 T2 X Y2) rfl rfl rfl (part_one rfl rfl)) rfl ?_
          refine ODS.call rfl rfl (fun _ => rfl) ((refNeed_ct 1000 (by omega)).mono ?_)
          rintro v L' ⟨rfl, rfl⟩
          refine ⟨_, rfl, Keep.cons rfl (e_loadm (hm c s2 T2 X Y2) rfl rfl rfl (part_one rfl rfl)) Keep.nil, ?_⟩
          refine ODS.pure rfl rfl (e_is (fun _ => rfl) (congrArg Value.bool hb1)) rfl ?_
          refine ODS.pure rfl rfl (fun _ => rfl) rfl ?_
          refine ODS.pure rfl rfl (fun _ => rfl) rfl ?_
          refine ODS.call rfl rfl (fun _ => rfl) ((refNeed_ct 1000 (by omega)).mono ?_)
          rintro v L' ⟨rfl, rfl⟩
          refine ⟨_, rfl, Keep.gone rfl Keep.nil, ?_⟩
          refine ODS.call rfl rfl (fun _ => rfl) ((bxFree_ct hX (by omega)).mono ?_)
          rintro v L' ⟨rfl, rfl⟩
          refine ⟨_, rfl, Keep.gone rfl Keep.nil, ?_⟩
          refine ODS.pure rfl rfl (e_is (fun _ => rfl) (congrArg Value.bool hb2)) rfl ?_
          refine ODS.pure rfl rfl (fun _ => rfl) rfl ?_
          refine ODS.nil ?_
          refine LS.cond rfl (fun hc => by cases hc) (fun hc => ?_)
          refine LS.skip ?_
          repeat refine LS.seq ?_
          refine LS.region rfl ?_
          refine OS.pure rfl (fun _ => rfl) rfl ?_
          refine OS.call noGo rfl (fun _ => rfl) ((pReopen_ct hok2 hd2).mono ?_)
          rintro v L' ⟨rd', rb', rfl, rfl⟩
          refine ⟨_, rfl, ?_⟩
          refine OS.pure rfl (fun _ => rfl) rfl ?_
          refine OS.pure rfl (fun _ => rfl) rfl ?_
          refine OS.pure rfl (fun _ => rfl) rfl ?_
          refine OS.pure rfl (fun _ => rfl) rfl ?_
          refine OS.pure rfl (fun _ => rfl) rfl ?_
          refine OS.nil ?_
          repeat refine LS.seq ?_
          refine LS.region rfl ?_
          refine OS.pure rfl (fun _ => rfl) rfl ?_
          refine OS.pure rfl (fun _ => rfl) rfl ?_
          refine OS.nil ?_
          refine LS.cond rfl (fun hc => by cases hc) (fun hc => ?_)
          refine LS.skip ?_
          exact ⟨rd', rb', ⟨s2.n, s2.D, 0, false, 0, false⟩, T2, V2, H, g, X, Y2 ++ Y9, ⟨hok2.1, hok2.2.1, hok2.2.2.1, Nat.zero_le _, Nat.zero_le _⟩, rfl, hW2.n, hW2.z, Nat.zero_le _, fun h => (by cases h), hTn, hW2.h, hRX, hTH, hX, by rw [hF9, List.append_assoc], rfl⟩
        · repeat refine LS.seq ?_
          refine LS.region rfl ?_
          refine OS.pure rfl (fun _ => rfl) rfl ?_
          refine OS.pure rfl (fun _ => rfl) rfl ?_
          refine OS.nil ?_
          refine LS.cond rfl (fun hc => by cases hc) (fun hc => ?_)
          repeat refine LS.seq ?_
          refine LS.region rfl ?_
          refine OS.pure rfl (fun _ => rfl) rfl ?_
          refine OS.pure rfl (fun _ => rfl) rfl ?_
          refine OS.read rfl (e_loadm (hm c s2 T2 X Y2) rfl rfl rfl (part_one rfl rfl)) rfl ?_
          refine OS.call noGo rfl (fun _ => rfl) ((value_ct 1000 tc (by omega)).mono ?_)
          rintro v L' ⟨rfl, rfl⟩
          rw [← hd]
          refine ⟨_, rfl, ?_⟩
          refine OS.call noGo rfl (fun _ => rfl) ((bxFull_ct hX hTH (by omega) (by omega) hnn hf5).mono ?_)
          rintro v L' ⟨rfl, rfl⟩
          refine ⟨_, rfl, ?_⟩
          refine OS.pure rfl (fun _ => rfl) rfl ?_
          refine OS.pure rfl (fun _ => rfl) rfl ?_
          refine OS.pure rfl (fun _ => rfl) rfl ?_
          refine OS.pure rfl (fun _ => rfl) rfl ?_
          refine OS.pure rfl (fun _ => rfl) rfl ?_
          refine OS.nil ?_
          repeat refine LS.seq ?_
          refine LS.region rfl ?_
          refine OS.pure rfl (fun _ => rfl) rfl ?_
          refine OS.pure rfl (fun _ => rfl) rfl ?_
          refine OS.pure rfl (fun _ => rfl) rfl ?_
          refine OS.pure rfl (fun _ => rfl) rfl ?_
          refine OS.pure rfl (fun _ => rfl) rfl ?_
          refine OS.call noGo rfl (fun _ => rfl) ((pCut_ct hd2 1000000 (by omega)).mono ?_)
          rintro v L' ⟨rfl, rfl⟩
          refine ⟨_, rfl, ?_⟩
          refine OS.pure rfl (fun _ => rfl) rfl ?_
          refine OS.pure rfl (fun _ => rfl) rfl ?_
          refine OS.nil ?_
          refine LS.cond rfl (fun hc => by cases hc) (fun hc => ?_)
          refine LS.sub Sub.toDk ?_
          refine LS.skip ?_
          exact ⟨c.rd, c.rb, ⟨s2.n, s2.D, s2.wr, true, 1000000, s2.dead⟩, T2, V2, H, g, X, Y2 ++ Y9, ⟨hok2.1, hok2.2.1, hok2.2.2.1, hok2.2.2.2.1, by show (1000000 : Nat) ≤ _; omega⟩, hd2, hW2.n, hW2.z, by show s2.wr ≤ _; omega, fun h => by show _ ≤ 1000000; omega, hTn, hW2.h, hRX, hTH, hX, by rw [hF9, List.append_assoc], rfl⟩
        · repeat refine LS.seq ?_
          refine LS.region rfl ?_
          refine OS.pure rfl (fun _ => rfl) rfl ?_
          refine OS.pure rfl (fun _ => rfl) rfl ?_
          refine OS.nil ?_
          refine LS.cond rfl (fun hc => by cases hc) (fun hc => ?_)
          repeat refine LS.seq ?_
          refine LS.region rfl ?_
          refine OS.pure rfl (fun _ => rfl) rfl ?_
          refine OS.pure rfl (fun _ => rfl) rfl ?_
          refine OS.read rfl (e_loadm (hm c s2 (Z.tkT T 5) X Y2) rfl rfl rfl (part_one rfl rfl)) rfl ?_
          refine OS.call noGo rfl (fun _ => rfl) ((value_ct 1000 tc (by omega)).mono ?_)
          rintro v L' ⟨rfl, rfl⟩
          rw [← hd]
          refine ⟨_, rfl, ?_⟩
          refine OS.call noGo rfl (fun _ => rfl) ((bxPut_ct hX hTH (by omega) (by omega) hnn hf5).mono ?_)
          rintro v L' ⟨rfl, X', hX', rfl⟩
          refine ⟨_, rfl, ?_⟩
          refine OS.pure rfl (fun _ => rfl) rfl ?_
          refine OS.pure rfl (fun _ => rfl) rfl ?_
          refine OS.pure rfl (fun _ => rfl) rfl ?_
          refine OS.pure rfl (fun _ => rfl) rfl ?_
          refine OS.pure rfl (fun _ => rfl) rfl ?_
          refine OS.nil ?_
          repeat refine LS.seq ?_
          refine LS.region rfl ?_
          refine OS.pure rfl (fun _ => rfl) rfl ?_
          refine OS.pure rfl (fun _ => rfl) rfl ?_
          refine OS.pure rfl (fun _ => rfl) rfl ?_
          refine OS.pure rfl (fun _ => rfl) rfl ?_
          refine OS.pure rfl (fun _ => rfl) rfl ?_
          refine OS.call noGo rfl (fun _ => rfl) ((pCut_ct hd2 1000000 (by omega)).mono ?_)
          rintro v L' ⟨rfl, rfl⟩
          refine ⟨_, rfl, ?_⟩
          refine OS.pure rfl (fun _ => rfl) rfl ?_
          refine OS.pure rfl (fun _ => rfl) rfl ?_
          refine OS.nil ?_
          refine LS.cond rfl (fun hc => by cases hc) (fun hc => ?_)
          refine LS.sub Sub.toDk ?_
          refine LS.skip ?_
          exact ⟨c.rd, c.rb, ⟨s2.n, s2.D, s2.wr, true, 1000000, s2.dead⟩, Z.tkT T 5, V ++ [(Z.tkL T 5, d)], _, _, X', Y2 ++ Y9, ⟨hok2.1, hok2.2.1, hok2.2.2.1, hok2.2.2.2.1, by show (1000000 : Nat) ≤ _; omega⟩, hd2, hW2.n, hW2.z, by show s2.wr ≤ _; omega, fun h => by show _ ≤ 1000000; omega, by rw [Z.tkT_len]; exact hTn, hW2.h, hRX.put (data := d) hHd hTH (by omega) hf5, hTH.take (by omega) 5, hX', by rw [hF9, List.append_assoc], rfl⟩
      rintro a L₂ ⟨rd', rb', s', T', V', H', g', X', Y', hok, hd', hn', hz', hwr', hcut', hTl', hHd', hR', hT', hX', rfl, rfl⟩
      have hHl' := hR'.len
      obtain ⟨T9, hT9⟩ : ∃ T9, T9 = List.replicate n false := ⟨_, rfl⟩
      have hT9l : T9.length = n := by rw [hT9]; simp
      have hT9t : ∀ x, Z.tkn T9 x = false := fun x => by rw [hT9]; exact Z.tkn_zeros ..
      repeat refine LS.seq ?_
      refine LS.region rfl ?_
      refine OS.pure rfl (fun _ => rfl) rfl ?_
      refine OS.call noGo rfl (fun _ => rfl) ((Open_idle hok hd' hz').mono ?_)
      rintro v L' ⟨rj', Yj, rfl, rfl⟩
      refine ⟨_, rfl, ?_⟩
      refine OS.pure rfl (fun _ => rfl) rfl ?_
      refine OS.pure rfl (fun _ => rfl) rfl ?_
      refine OS.pure rfl (fun _ => rfl) rfl ?_
      refine OS.pure rfl (fun _ => rfl) rfl ?_
      refine OS.pure rfl (fun _ => rfl) rfl ?_
      refine OS.nil ?_
      repeat refine LS.seq ?_
      refine LS.region rfl ?_
      refine OS.pure rfl (fun _ => rfl) rfl ?_
      refine OS.call noGo rfl (fun _ => rfl) ((Z.New_ct n (by omega)).mono ?_)
      rintro v L' ⟨rm', rf', rfl, rfl⟩
      rw [← hT9]
      refine ⟨_, rfl, ?_⟩
      refine OS.pure rfl (fun _ => rfl) rfl ?_
      refine OS.pure rfl (fun _ => rfl) rfl ?_
      refine OS.pure rfl (fun _ => rfl) rfl ?_
      refine OS.pure rfl (fun _ => rfl) rfl ?_
      refine OS.pure rfl (fun _ => rfl) rfl ?_
      refine OS.sub (Sub.pulls [4, 4, 4] rfl) ?_
      refine OS.nil ?_
      repeat refine LS.seq ?_
      refine LS.region rfl ?_
      refine OS.pure rfl (fun _ => rfl) rfl ?_
      refine OS.pure rfl (fun _ => rfl) rfl ?_
      refine OS.call noGo rfl (fun _ => rfl) ((Open_ct (base := 150) (by omega) (by omega) (by omega)).mono ?_)
      rintro v L' ⟨rD', rfl, rfl⟩
      obtain ⟨c', hc'⟩ : ∃ c', c' = (⟨rD', rj', rd', rb', rm', rf', 150⟩ : Whr) := ⟨_, rfl⟩
      have hB9 : ∀ T', T'.length = n → Bok c' s' T' := fun T' hT' => by rw [hc']; exact ⟨hok, by omega, by show 121 < 150; omega, by show 150 + T'.length ≤ s'.n; omega⟩
      have hcb : c'.base = 150 := by rw [hc']
      rw [show rD' = c'.rD by rw [hc'], show rm' = c'.rm by rw [hc']]
      refine ⟨_, rfl, ?_⟩
      refine OS.pure rfl (fun _ => rfl) rfl ?_
      refine OS.pure rfl (fun _ => rfl) rfl ?_
      refine OS.pure rfl (fun _ => rfl) rfl ?_
      refine OS.pure rfl (fun _ => rfl) rfl ?_
      refine OS.pure rfl (fun _ => rfl) rfl ?_
      refine OS.nil ?_
      repeat refine LS.seq ?_
      refine LS.region rfl ?_
      refine OS.pure rfl (fun _ => rfl) rfl ?_
      refine OS.pure rfl (fun _ => rfl) rfl ?_
      refine OS.pure rfl (fun _ => rfl) rfl ?_
      refine OS.pure rfl (fun _ => rfl) rfl ?_
      refine OS.pure rfl (fun _ => rfl) rfl ?_
      refine OS.pure rfl (fun _ => rfl) rfl ?_
      refine OS.pure rfl (fun _ => rfl) rfl ?_
      refine OS.pure rfl (fun _ => rfl) rfl ?_
      refine OS.pure rfl (fun _ => rfl) rfl ?_
      refine OS.pure rfl (fun _ => rfl) rfl ?_
      refine OS.nil ?_
      refine LS.cond rfl (fun hc => by cases hc) (fun hc => ?_)
      refine LS.skip ?_
      obtain ⟨I', hI'⟩ : ∃ I', I' = idsH H' := ⟨_, rfl⟩
      have hIl' : I'.length ≤ 300 := by rw [hI']; have := filter_len (fun i => decide (H'[i]? = some (i : Int))) H'.length; unfold idsH; omega
      refine LS.sub (Sub.sums (A := bl c' s' T9 (X' ++ ((Yj ++ Y') ++ L₁))) fun f => by rw [hc']; simp [bl, Z.fm] <;> omega) ?_
      repeat refine LS.seq ?_
      refine LS.region rfl ?_
      refine OS.pure rfl (fun _ => rfl) rfl ?_
      refine OS.call noGo rfl (fun _ => rfl) ((bIds_ct hX' (by omega)).mono ?_)
      rintro v L' ⟨YI, hgI, rfl⟩
      rw [← hI'] at hgI
      refine ⟨_, rfl, ?_⟩
      refine OS.pure rfl (fun _ => rfl) rfl ?_
      refine OS.nil ?_
      repeat refine LS.seq ?_
      refine LS.region rfl ?_
      refine OS.pure rfl (fun _ => rfl) rfl ?_
      refine OS.nil ?_
      repeat refine LS.seq ?_
      refine LS.block ?_
      obtain rfl : rd' = c'.rd := by rw [hc']
      refine LS.loopJ [1, 5, 8, 12, 14, 16, 17, 19, 33] (fun q a L₂ => ∃ (b : Nat) (Tb : List Bool), q = I'.length - b ∧ b ≤ I'.length ∧ Tb.length = n ∧ (∀ j, Z.tkn Tb j = decide (j ∈ (I'.take b).flatMap (blkH H'))) ∧ L₂ = bl c' s' Tb (X' ++ (YI ++ ((Yj ++ Y') ++ L₁))) ∧
        a = [.chan none, lv, .chan none, .chan none, .chan none, .int .i64 (n : Nat), .chan none, .chan none, ptr c'.rd, .chan none, .chan none, .chan none, ptr c'.rm, .chan none, ptr c'.rD, .chan none, ptr x, .int .i64 (i : Nat), .chan none, v, .chan none, .chan none, .chan none, .chan none, .chan none, .chan none, .chan none, .chan none, .chan none, .chan none, .chan none, .chan none, .chan none, .int .i64 (b : Nat), .chan none, .chan none, .chan none, .chan none, .chan none, .chan none, .chan none, .chan none, .chan none, .chan none, .chan none, .chan none, .chan none, .chan none, .chan none, .chan none, .chan none, .chan none, .chan none, .chan none, .chan none, .chan none, .chan none, .chan none, .chan none, .chan none, .chan none, .chan none, .chan none, .chan none, .chan none, .chan none, .chan none, .chan none, .chan none, .chan none, .chan none, .chan none, .chan none, .chan none, .chan none, .chan none, .chan none, .chan none, .chan none, .chan none, .chan none, .chan none, .chan none, .chan none, .chan none, .chan none, .chan none, .chan none, .chan none, .chan none, .chan none, .chan none, .chan none, .chan none, .chan none, .chan none, .chan none, .chan none, .chan none, .chan none, .chan none, .chan none, .chan none, .chan none, .chan none, .chan none, .chan none, .chan none, .chan none, .chan none, .chan none, .chan none, .chan none, .chan none, .chan none, .chan none, .chan none, .chan none, .chan none, .chan none, .chan none, .chan none, .chan none, .chan none, .chan none, .chan none, .chan none, .chan none, .chan none, .chan none, .chan none, .chan none, .chan none, .chan none, .chan none, .chan none, .chan none, .chan none, .chan none, .chan none, .chan none, .chan none, .chan none, .chan none, .chan none, .chan none, .chan none, .chan none, .chan none, .chan none, .chan none, .chan none, .chan none, .chan none, .chan none, .chan none, .chan none, .chan none, .chan none, .chan none, .chan none, .chan none, .chan none, .chan none, .chan none, .chan none, .chan none, .chan none, .chan none, .chan none, .chan none, .chan none, .chan none, .chan none, .chan none, .chan none, .chan none, .chan none, .chan none, .chan none, .chan none, .chan none, .chan none, .chan none, .chan none, .chan none, .chan none, .chan none, .chan none, .chan none, .chan none, .chan none, .chan none, .chan none, .chan none, .chan none, .chan none, .chan none, .chan none, .chan none, .chan none, .chan none, .chan none, .chan none, .chan none, .chan none, .chan none, .chan none, .chan none, .chan none, .chan none, .chan none, .chan none, .chan none, .chan none, .chan none, .chan none, .chan none, .chan none, .chan none, .chan none, .chan none, .chan none, .chan none, .chan none, .chan none, .chan none, .chan none, .chan none, .chan none, .chan none, .chan none, .chan none, .chan none, .chan none, .chan none, .chan none, .chan none, .chan none, .chan none, .chan none, .chan none, .chan none, .chan none, .chan none, .chan none, .chan none, .chan none, .chan none, .chan none, .chan none, .chan none, .chan none, .chan none, .chan none, .chan none, .chan none, .chan none, .chan none, .chan none, .chan none, .chan none, .chan none, .chan none, .chan none, .chan none, .chan none, .chan none, .chan none, .chan none, .chan none, .chan none, .chan none, .chan none, .chan none, .chan none, .chan none, .chan none, .chan none, .chan none, .chan none, .chan none, .chan none, .chan none, .chan none, .chan none, .chan none, .chan none, .chan none, .chan none, .chan none, .chan none, .chan none, .chan none, .chan none, .chan none, .chan none, .chan none, .chan none, .chan none, .chan none, .chan none, .chan none, .chan none, .chan none, .chan none, .chan none, .chan none, .chan none, .chan none, .chan none, .chan none, .chan none, .chan none, .chan none, .chan none, .chan none, .chan none, .chan none, .chan none, .chan none, .chan none, .chan none, .chan none, .chan none]) (n := I'.length) rfl ⟨0, T9, rfl, by omega, hT9l, fun j => by rw [hT9t]; simp, rfl, rfl⟩ ?_
      rintro q a L₂ ⟨b, Tb, rfl, hb, hTb, htb, rfl, rfl⟩
      have hsI : ∀ Tc, SV 1 (bl c' s' Tc (X' ++ (YI ++ ((Yj ++ Y') ++ L₁)))) v I'.length (ints I') := fun Tc => hgI.sv.mono (fun p hp => by simp [hp])
      repeat refine LS.seq ?_
      refine LS.region rfl ?_
      refine OS.pure rfl (fun _ => rfl) rfl ?_
      refine OS.pure rfl (fun _ => rfl) rfl ?_
      refine OS.pure rfl (e_len (hsI Tb) rfl rfl rfl rfl rfl) rfl ?_
      refine OS.pure rfl (fun _ => rfl) rfl ?_
      refine OS.nil ?_
      repeat refine LS.seq ?_
      refine LS.cond rfl (fun hc => ?_) (fun hc => ?_)
      · have hc : (b : Int) < I'.length := lt_of hc
        have hbl : b < I'.length := by omega
        obtain ⟨k, hk⟩ : ∃ k, I'[b]? = some k := ⟨_, List.getElem?_eq_getElem hbl⟩
        obtain ⟨y, hyV, hyk⟩ := hR'.id (D := s'.D) (base := 150) (T := T') (k := k) (by rw [← hI']; exact List.mem_of_getElem? hk)
        have hbk : blkH H' k = y.1 := by rw [← hyk]; exact hR'.blocks hHd' hyV
        have hVy := hHd'.val y hyV
        have hy0 := hVy.wid
        rw [hyk] at hy0
        have hylt : ∀ x ∈ y.1, x < Tb.length := fun x hx => by rw [hTb, ← hTl']; exact hVy.lt x hx
        have hfree := claims_free (H := H') (T := Tb) (a := b) (k := k) (by rw [← hI']; exact hk) (by rw [← hI']; exact htb)
        have hnext := claims_next (H := H') (T := Tb) (a := b) (k := k) (by rw [← hI']; exact hk) (by rw [← hI']; exact htb) (by rw [hbk]; exact hylt)
        rw [hbk] at hfree hnext
        rw [← hI'] at hnext
        have hVb : Val s'.D c'.base Tb.length y.1 y.2 := by rw [hcb, hTb, ← hTl']; exact hVy
        have hcl : (claimL Tb y.1).length = n := by rw [claimL_len]; exact hTb
        have hVc : Val s'.D c'.base (claimL Tb y.1).length y.1 y.2 := by rw [claimL_len]; exact hVb
        refine LS.skip ?_
        repeat refine LS.seq ?_
        refine LS.block ?_
        repeat refine LS.seq ?_
        refine LS.region rfl ?_
        refine OS.pure rfl (fun _ => rfl) rfl ?_
        refine OS.pure rfl (fun _ => rfl) rfl ?_
        refine OS.pure rfl (fun _ => rfl) rfl ?_
        refine OS.at1 (j := b) ((hsI Tb)) ((show _ = some (Value.int .i64 (k : Nat)) by simp [hk])) rfl rfl rfl rfl rfl rfl (fun ra0 oa0 rowa0 csa0 ma0 ca0 ga0 => ⟨_, rfl, ?_⟩)
        refine OS.read rfl (e_loadm ma0 ca0 rfl rfl (part_one rfl ga0)) rfl ?_
        refine OS.call noGo rfl (fun _ => rfl) ((Claim_ct (hB9 Tb hTb) hd' hVb hy0 hfree).mono ?_)
        rintro w L' ⟨rfl, rfl⟩
        refine ⟨_, rfl, ?_⟩
        refine OS.pure rfl (fun _ => rfl) rfl ?_
        refine OS.pure rfl (fun _ => rfl) rfl ?_
        refine OS.pure rfl (fun _ => rfl) rfl ?_
        refine OS.pure rfl (fun _ => rfl) rfl ?_
        refine OS.pure rfl (fun _ => rfl) rfl ?_
        refine OS.at1 (j := b) ((hsI (claimL Tb y.1))) ((show _ = some (Value.int .i64 (k : Nat)) by simp [hk])) rfl rfl rfl rfl rfl rfl (fun ra0 oa0 rowa0 csa0 ma0 ca0 ga0 => ⟨_, rfl, ?_⟩)
        refine OS.read rfl (e_loadm ma0 ca0 rfl rfl (part_one rfl ga0)) rfl ?_
        refine OS.call noGo rfl (fun _ => rfl) ((Claim_twice (hB9 _ hcl) hd' hVc hy0 (by rw [claimL_tkn hylt, decide_eq_true (List.mem_of_getElem? hy0)]; simp)).mono ?_)
        rintro w L' ⟨rfl, rfl⟩
        refine ⟨_, rfl, ?_⟩
        refine OS.pure rfl (fun _ => rfl) rfl ?_
        refine OS.pure rfl (fun _ => rfl) rfl ?_
        refine OS.nil ?_
        refine LS.cond rfl (fun hc => by cases hc) (fun hc => ?_)
        refine LS.skip ?_
        repeat refine LS.seq ?_
        refine LS.region rfl ?_
        refine OS.pure rfl (fun _ => rfl) rfl ?_
        refine OS.pure rfl (e_add rfl rfl rfl (in_i64 (by omega) (by omega))) rfl ?_
        refine OS.pure rfl (fun _ => rfl) rfl ?_
        refine OS.nil ?_
        exact ⟨I'.length - (b + 1), by omega, b + 1, claimL Tb y.1, rfl, by omega, hcl, hnext, rfl, rfl⟩
      have hc : (I'.length : Int) ≤ b := nlt_of hc
      have hbn : b = I'.length := by omega
      rw [hbn, List.take_length] at htb
      have hTe : Tb = T' := claims_end hR' hT' hHd' (by omega) (by rw [← hI']; exact htb)
      rw [hTe] at hTb ⊢
      refine LS.exit ?_
      exact ⟨c', s', T', V', H', g', x, X', YI ++ (Yj ++ Y'), ⟨⟨hB9 T' hTb, hcb, hn', hz', hHd', hwr', by omega⟩, hd', hR', hT'⟩, hcut', hX', by simp only [List.append_assoc], rfl⟩
    have hq4 : ieqB ((tk.toNat : Nat) : Int) 4 = false := by rw [ieqB_eq]; simp; omega
    repeat refine LS.seq ?_
    refine LS.region rfl ?_
    refine OS.pure rfl (e_is (fun _ => rfl) (congrArg Value.bool hq4)) rfl ?_
    refine OS.pure rfl (fun _ => rfl) rfl ?_
    refine OS.nil ?_
    refine LS.cond rfl (fun hc => by cases hc) (fun hc => ?_)
    refine LS.skip ?_
    exact ⟨c, s, T, V, H, g, x, X, Y9, hTw', hcut', hX, by rw [hF9], rfl⟩
  rintro a L₂ ⟨c, s, T, V, H, g, x, X, Y, hTw, hcut, hX, rfl, rfl⟩
  repeat refine LS.seq ?_
  refine LS.region rfl ?_
  refine OS.pure rfl (fun _ => rfl) rfl ?_
  refine OS.pure rfl (fun _ => rfl) rfl ?_
  refine OS.pure rfl (fun _ => rfl) rfl ?_
  refine OS.call noGo rfl (fun _ => rfl) ((all_ct hTw hX).mono ?_)
  rintro v L' ⟨rfl, rfl⟩
  refine ⟨_, rfl, ?_⟩
  refine OS.pure rfl (fun _ => rfl) rfl ?_
  refine OS.nil ?_
  refine LS.cond rfl (fun hc => by cases hc) (fun hc => ?_)
  refine LS.skip ?_
  repeat refine LS.seq ?_
  refine LS.region rfl ?_
  refine OS.pure rfl (fun _ => rfl) rfl ?_
  refine OS.pure rfl (e_add rfl rfl rfl (in_i64 (by omega) (by omega))) rfl ?_
  refine OS.pure rfl (fun _ => rfl) rfl ?_
  refine OS.nil ?_
  exact ⟨m - (i + 1), by omega, i + 1, rfl, by omega, c, s, T, V, H, g, x, X, Y, hTw, hcut, hX, rfl, rfl⟩
end Go.Proofs.Yteiiekfccecoiaa

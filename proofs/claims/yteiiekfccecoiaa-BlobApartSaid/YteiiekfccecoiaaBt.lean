/- Layer 8: what BlobStays comes to. -/
import Derived.Test.YteiiekfccecoiaaBs
namespace Go.Proofs.Yteiiekfccecoiaa
open Go.Am
set_option linter.unusedVariables false
set_option maxRecDepth 20000

theorem bDead_ct {c : Whr} {s : Dk} {T : List Bool} {F : RL} : CS Try.prog 32 [ptr c.rd] (bl c s T F) fun v L' => v = .bool s.dead ∧ L' = bl c s T F :=
  (CS.sub (Sub.pulls [3, 3] rfl) Dead_ct).less fun v L' ⟨h1, h2⟩ => ⟨bl c s T F, by rw [h2]; exact Sub.pulls [3, 3] rfl, h1, rfl⟩
theorem bCut_ct {c : Whr} {s : Dk} {T : List Bool} {F : RL} (hd : s.dead = false) (m : Nat) (hm : m ≤ 9223372036854775807) : CS Try.prog 22 [ptr c.rd, .int .i64 (m : Nat)] (bl c s T F) fun v L' => v = .int .i64 0 ∧ L' = bl c ⟨s.n, s.D, s.wr, true, m, s.dead⟩ T F :=
  (CS.sub (Sub.pulls [3, 3] rfl) (Cut_ct hd m hm)).less fun v L' ⟨h1, h2⟩ => ⟨bl c ⟨s.n, s.D, s.wr, true, m, s.dead⟩ T F, by rw [h2]; exact Sub.pulls [3, 3] rfl, h1, rfl⟩
theorem bWrites_ct {c : Whr} {s : Dk} {T : List Bool} {F : RL} : CS Try.prog 14 [ptr c.rd] (bl c s T F) fun v L' => v = .int .i64 (s.wr : Nat) ∧ L' = bl c s T F :=
  (CS.sub (Sub.pulls [3, 3] rfl) Writes_ct).less fun v L' ⟨h1, h2⟩ => ⟨bl c s T F, by rw [h2]; exact Sub.pulls [3, 3] rfl, h1, rfl⟩
theorem bFree_ct {c : Whr} {s : Dk} {T : List Bool} {F : RL} (hT : T.length ≤ 32768) : CS Try.prog 31 [ptr c.rm] (bl c s T F) fun v L' => v = .int .i64 (Z.frees T : Nat) ∧ L' = bl c s T F :=
  (CS.sub (Sub.pulls [5, 5] rfl) (Z.Free_ct hT)).less fun v L' ⟨h1, h2⟩ => ⟨bl c s T F, by rw [h2]; exact Sub.pulls [5, 5, 5, 5] rfl, h1, rfl⟩
theorem bTaken_ct {c : Whr} {s : Dk} {T : List Bool} {F : RL} (hT : T.length ≤ 32768) (i : Int) : CS Try.prog 30 [ptr c.rm, .int .i64 i] (bl c s T F) fun v L' => v = .bool (decide (0 ≤ i ∧ i < T.length) && Z.tkn T i.toNat) ∧ L' = bl c s T F :=
  (CS.sub (Sub.pulls [5, 5] rfl) (Z.Taken_ct hT i)).less fun v L' ⟨h1, h2⟩ => ⟨bl c s T F, by rw [h2]; exact Sub.pulls [5, 5, 5, 5] rfl, h1, rfl⟩

theorem stays_ct {L : RL} {lv : Value} {m : Nat} {zs : List Int} {data : List UInt8} (cut : Int) (hl : SV 1 L lv m (zs.map fun z => .int .i64 z)) (hm : m ≤ 9223372036854775807) (hdm : data.length ≤ 9223372036854775807) :
    CS Try.prog 6 [txt data, lv, .int .i64 cut] L fun v' _ => v' = .bool true := by
  have hlen : zs.length = m := by have := hl.len; simpa using this
  refine CS.mk (fn := Try.f6) rfl rfl rfl rfl ?_
  repeat refine LS.seq ?_
  refine LS.region rfl ?_
  refine OS.pure rfl (fun _ => rfl) rfl ?_
  refine OS.nil ?_
  by_cases hbig : 20000 < data.length
  · have hb : (!ileB (data.length : Int) 20000) = true := by rw [ileB_eq]; simp; omega
    repeat refine LS.seq ?_
    refine LS.region rfl ?_
    refine OS.pure rfl (fun _ => rfl) rfl ?_
    refine OS.pure rfl (fun _ => rfl) rfl ?_
    refine OS.pure rfl (e_is (fun _ => rfl) (congrArg Value.bool hb)) rfl ?_
    refine OS.pure rfl (fun _ => rfl) rfl ?_
    refine OS.skip rfl rfl ?_
    refine OS.skip rfl rfl ?_
    refine OS.skip rfl rfl ?_
    refine OS.pure rfl (fun _ => rfl) rfl ?_
    refine OS.pure rfl (fun _ => rfl) rfl ?_
    refine OS.skip rfl rfl ?_
    refine OS.skip rfl rfl ?_
    refine OS.pure rfl (fun _ => rfl) rfl ?_
    refine OS.nil ?_
    refine LS.cond rfl (fun hc => ?_) (fun hc => by cases hc)
    repeat refine LS.seq ?_
    refine LS.region rfl ?_
    refine OS.call noGo rfl (fun _ => rfl) ((awake_ct).mono ?_)
    rintro v L' ⟨rfl, hLL⟩
    refine ⟨_, rfl, ?_⟩
    refine OS.pure rfl (fun _ => rfl) rfl ?_
    refine OS.nil ?_
    refine LS.ret ⟨_, fun _ _ => rfl, ?_⟩
    rfl
  have hb : (!ileB (data.length : Int) 20000) = false := by rw [ileB_eq]; simp; omega
  by_cases hm20 : 20 < m
  · have hb2 : (!ileB (m : Int) 20) = true := by rw [ileB_eq]; simp; omega
    repeat refine LS.seq ?_
    refine LS.region rfl ?_
    refine OS.pure rfl (fun _ => rfl) rfl ?_
    refine OS.pure rfl (fun _ => rfl) rfl ?_
    refine OS.pure rfl (e_is (fun _ => rfl) (congrArg Value.bool hb)) rfl ?_
    refine OS.pure rfl (fun _ => rfl) rfl ?_
    refine OS.pure rfl (fun _ => rfl) rfl ?_
    refine OS.pure rfl (e_len hl rfl rfl rfl rfl rfl) rfl ?_
    refine OS.pure rfl (e_is (fun _ => rfl) (congrArg Value.bool hb2)) rfl ?_
    refine OS.pure rfl (fun _ => rfl) rfl ?_
    refine OS.pure rfl (fun _ => rfl) rfl ?_
    refine OS.skip rfl rfl ?_
    refine OS.skip rfl rfl ?_
    refine OS.pure rfl (fun _ => rfl) rfl ?_
    refine OS.nil ?_
    refine LS.cond rfl (fun hc => ?_) (fun hc => by cases hc)
    repeat refine LS.seq ?_
    refine LS.region rfl ?_
    refine OS.call noGo rfl (fun _ => rfl) ((awake_ct).mono ?_)
    rintro v L' ⟨rfl, hLL⟩
    refine ⟨_, rfl, ?_⟩
    refine OS.pure rfl (fun _ => rfl) rfl ?_
    refine OS.nil ?_
    refine LS.ret ⟨_, fun _ _ => rfl, ?_⟩
    rfl
  have hb2 : (!ileB (m : Int) 20) = false := by rw [ileB_eq]; simp; omega
  repeat refine LS.seq ?_
  refine LS.region rfl ?_
  refine OS.pure rfl (fun _ => rfl) rfl ?_
  refine OS.pure rfl (fun _ => rfl) rfl ?_
  refine OS.pure rfl (e_is (fun _ => rfl) (congrArg Value.bool hb)) rfl ?_
  refine OS.pure rfl (fun _ => rfl) rfl ?_
  refine OS.pure rfl (fun _ => rfl) rfl ?_
  refine OS.pure rfl (e_len hl rfl rfl rfl rfl rfl) rfl ?_
  refine OS.pure rfl (e_is (fun _ => rfl) (congrArg Value.bool hb2)) rfl ?_
  refine OS.pure rfl (fun _ => rfl) rfl ?_
  refine OS.pure rfl (fun _ => rfl) rfl ?_
  refine OS.call noGo rfl (fun _ => rfl) ((awake_ct).mono ?_)
  rintro v L' ⟨rfl, hLL⟩
  have hLL := hLL.symm
  subst hLL
  refine ⟨_, rfl, ?_⟩
  refine OS.pure rfl (fun _ => rfl) rfl ?_
  refine OS.pure rfl (fun _ => rfl) rfl ?_
  refine OS.nil ?_
  refine LS.cond rfl (fun hc => by cases hc) (fun hc => ?_)
  refine LS.skip ?_
  repeat refine LS.seq ?_
  refine LS.region rfl ?_
  refine OS.call noGo rfl (fun _ => rfl) ((fresh_ct 300 (by omega)).mono ?_)
  rintro v L₁ ⟨c, Y0, hcb, rfl, rfl⟩
  have hW0 : W8 c dk0 (List.replicate 300 false) [] 0 := W8.fresh hcb (by omega)
  refine ⟨_, rfl, ?_⟩
  refine OS.pure rfl (fun _ => rfl) rfl ?_
  refine OS.pure rfl (fun _ => rfl) rfl ?_
  refine OS.pure rfl (fun _ => rfl) rfl ?_
  refine OS.pure rfl (fun _ => rfl) rfl ?_
  refine OS.pure rfl (fun _ => rfl) rfl ?_
  refine OS.pure rfl (fun _ => rfl) rfl ?_
  refine OS.pure rfl (fun _ => rfl) rfl ?_
  refine OS.nil ?_
  repeat refine LS.seq ?_
  refine LS.region rfl ?_
  refine OS.pure rfl (fun _ => rfl) rfl ?_
  refine OS.pure rfl (fun _ => rfl) rfl ?_
  refine OS.nil ?_
  refine LS.cond rfl (fun hc => by cases hc) (fun hc => ?_)
  refine LS.skip ?_
  obtain ⟨T0, hT0⟩ : ∃ T0, T0 = List.replicate 300 false := ⟨_, rfl⟩
  have hf0 : Z.frees T0 = 300 := by rw [hT0, Z.frees_zeros]
  have hT0l : T0.length = 300 := by rw [hT0]; simp
  rw [← hT0] at hW0 ⊢
  obtain ⟨n, hn⟩ : ∃ n, n = need data.length := ⟨_, rfl⟩
  have hn2 := need_two data.length
  have hn3 : n ≤ 100 := by rw [hn]; unfold need; omega
  repeat refine LS.seq ?_
  refine LS.region rfl ?_
  refine OS.pure rfl (fun _ => rfl) rfl ?_
  refine OS.call noGo rfl (fun _ => rfl) ((Put_any (data := [102, 105, 114, 115, 116]) (n := 2) hW0 (by omega) rfl (by decide) rfl).mono ?_)
  rintro v L₁ ⟨Y1, hv⟩
  rcases hv with ⟨h, _⟩ | ⟨hf1, _, rfl, rfl⟩ | ⟨_, h, _⟩
  · omega
  case inr.inr => cases h
  have hW1 := hW0.put (data := [102, 105, 114, 115, 116]) (n := 2) (by omega) rfl hf1 (by decide)
  obtain ⟨la, hla⟩ : ∃ la, la = Z.tkL T0 2 := ⟨_, rfl⟩
  have hla0 : la[0]? = some (Z.ff T0) := by rw [hla]; exact tkL_head (by omega)
  obtain ⟨s1, hs1⟩ : ∃ s1, s1 = dkW dk0 T0 2 [102, 105, 114, 115, 116] := ⟨_, rfl⟩
  have hd1 : s1.dead = false := by rw [hs1]
  have hc1 : s1.cut = false := by rw [hs1]
  rw [← hla, ← hs1] at hW1
  rw [← hs1]
  obtain ⟨T1, hT1⟩ : ∃ T1, T1 = Z.tkT T0 2 := ⟨_, rfl⟩
  have hf1' : Z.frees T1 = 298 := by have := Z.tkT_frees hf1; rw [← hT1] at this; omega
  have hT1l : T1.length = 300 := by rw [hT1, Z.tkT_len]; exact hT0l
  rw [← hT1] at hW1 ⊢
  refine ⟨_, rfl, ?_⟩
  refine OS.pure rfl (fun _ => rfl) rfl ?_
  refine OS.pure rfl (fun _ => rfl) rfl ?_
  refine OS.pure rfl (fun _ => rfl) rfl ?_
  refine OS.pure rfl (fun _ => rfl) rfl ?_
  refine OS.pure rfl (fun _ => rfl) rfl ?_
  refine OS.nil ?_
  repeat refine LS.seq ?_
  refine LS.region rfl ?_
  refine OS.pure rfl (fun _ => rfl) rfl ?_
  refine OS.pure rfl (fun _ => rfl) rfl ?_
  refine OS.call noGo rfl (fun _ => rfl) ((Put_any (data := data) (n := n) hW1 (by omega) hd1 (by omega) hn.symm).mono ?_)
  rintro v L₁ ⟨Y2, hv⟩
  rcases hv with ⟨h, _⟩ | ⟨hf2, _, rfl, rfl⟩ | ⟨_, h, _⟩
  · omega
  case inr.inr => rw [hc1] at h; cases h
  have hW2 := hW1.put (data := data) (n := n) (by omega) hn.symm hf2 (by omega)
  obtain ⟨l, hl'⟩ : ∃ l, l = Z.tkL T1 n := ⟨_, rfl⟩
  have hl0 : l[0]? = some (Z.ff T1) := by rw [hl']; exact tkL_head (by omega)
  obtain ⟨s2, hs2⟩ : ∃ s2, s2 = dkW s1 T1 n data := ⟨_, rfl⟩
  have hd2 : s2.dead = false := by rw [hs2]
  rw [← hl', ← hs2] at hW2
  rw [← hs2]
  obtain ⟨T2, hT2⟩ : ∃ T2, T2 = Z.tkT T1 n := ⟨_, rfl⟩
  have hT2l : T2.length = 300 := by rw [hT2, Z.tkT_len]; exact hT1l
  rw [← hT2] at hW2 ⊢
  obtain ⟨id, hid⟩ : ∃ id, id = Z.ff T1 := ⟨_, rfl⟩
  rw [← hid] at hl0 ⊢
  have hW2' : W8 c s2 T2 ([] ++ (la, [102, 105, 114, 115, 116]) :: [(l, data)]) (0 + 400 + 400) := hW2
  have hW3 := hW2'.drop
  have hVa := hW2'.val (v := (la, [102, 105, 114, 115, 116])) (by simp)
  have hta := hW2'.tk (v := (la, [102, 105, 114, 115, 116])) (by simp) (List.mem_of_getElem? hla0)
  obtain ⟨q, hq⟩ : ∃ q, q = uns cut % 200 := ⟨_, rfl⟩
  refine ⟨_, rfl, ?_⟩
  refine OS.pure rfl (fun _ => rfl) rfl ?_
  refine OS.pure rfl (fun _ => rfl) rfl ?_
  refine OS.pure rfl (fun _ => rfl) rfl ?_
  refine OS.pure rfl (fun _ => rfl) rfl ?_
  refine OS.pure rfl (fun _ => rfl) rfl ?_
  refine OS.nil ?_
  repeat refine LS.seq ?_
  refine LS.region rfl ?_
  refine OS.pure rfl (fun _ => rfl) rfl ?_
  refine OS.pure rfl (fun _ => rfl) rfl ?_
  refine OS.pure rfl (fun _ => rfl) rfl ?_
  refine OS.pure rfl (fun _ => rfl) rfl ?_
  refine OS.pure rfl (fun _ => rfl) rfl ?_
  refine OS.pure rfl (fun _ => rfl) rfl ?_
  refine OS.pure rfl (fun _ => rfl) rfl ?_
  refine OS.pure rfl (fun _ => rfl) rfl ?_
  refine OS.pure rfl (fun _ => rfl) rfl ?_
  refine OS.call noGo rfl (fun _ => rfl) ((Drop_ct hW2'.ok hd2 hVa hla0 hta).mono ?_)
  rintro v L₁ ⟨rfl, rfl⟩
  obtain ⟨T3, hT3⟩ : ∃ T3, T3 = Z.giveL T2 la := ⟨_, rfl⟩
  have hT3l : T3.length = 300 := by rw [hT3, Z.giveL_len]; exact hT2l
  have hW3 : W8 c s2 T3 [(l, data)] 800 := by rw [hT3]; exact hW3
  show ∃ a₁, _
  rw [← hT3]
  refine ⟨_, rfl, ?_⟩
  refine OS.pure rfl (fun _ => rfl) rfl ?_
  refine OS.pure rfl (fun _ => rfl) rfl ?_
  refine OS.pure rfl (fun _ => rfl) rfl ?_
  refine OS.pure rfl (fun _ => rfl) rfl ?_
  refine OS.pure rfl (fun _ => rfl) rfl ?_
  refine OS.pure rfl (e_uns rfl rfl rfl rfl) rfl ?_
  refine OS.pure rfl (e_is (e_rem (m := uns cut) (n := 200) rfl rfl rfl (by decide)) (congrArg (fun x : Nat => Value.int .u64 (x : Int)) hq.symm)) rfl ?_
  refine OS.pure rfl (e_conv (k' := .i64) rfl rfl rfl rfl (in_i64 (by omega) (by omega))) rfl ?_
  refine OS.call noGo rfl (fun _ => rfl) ((bCut_ct hd2 q (by omega)).mono ?_)
  rintro v L₁ ⟨rfl, rfl⟩
  refine ⟨_, rfl, ?_⟩
  refine OS.pure rfl (fun _ => rfl) rfl ?_
  refine OS.pure rfl (fun _ => rfl) rfl ?_
  refine OS.nil ?_
  refine LS.cond rfl (fun hc => by cases hc) (fun hc => ?_)
  refine LS.skip ?_
  have hW4 : W8 c ⟨s2.n, s2.D, s2.wr, true, q, s2.dead⟩ T3 [(l, data)] 800 := hW3.cutAt (by omega)
  generalize hs4 : (⟨s2.n, s2.D, s2.wr, true, q, s2.dead⟩ : Dk) = s4 at hW4
  clear hs4 hW3 hta hVa hW2' hW2
  obtain ⟨G, hG⟩ : ∃ G, G = Y2 ++ (Y1 ++ (Y0 ++ L)) := ⟨_, rfl⟩
  have hlG : SV 1 G lv m (zs.map fun z => .int .i64 z) := by rw [hG]; exact hl.mono (fun p hp => by simp [hp])
  rw [← hG]
  clear hG
  repeat refine LS.seq ?_
  refine LS.region rfl ?_
  refine OS.pure rfl (fun _ => rfl) rfl ?_
  refine OS.nil ?_
  refine LS.mid [0, 7, 9, 12] (fun a L₁ => ∃ (s : Dk) (T : List Bool) (V : List (List Nat × List UInt8)) (Y : RL), W8 c s T ((l, data) :: V) 10000 ∧ T.length = 300 ∧ L₁ = bl c s T (Y ++ G) ∧
    a = [txt data, .chan none, .chan none, .chan none, .chan none, .chan none, .chan none, ptr c.rd, .chan none, ptr c.rD, .chan none, .chan none, .int .i64 (id : Nat), .chan none, .chan none, .chan none, .chan none, .chan none, .chan none, .chan none, .chan none, .chan none, .chan none, .chan none, .chan none, .chan none, .chan none, .chan none, .chan none, .chan none, .chan none, .chan none, .chan none, .chan none, .chan none, .chan none, .chan none, .chan none, .chan none, .chan none, .chan none, .chan none, .chan none, .chan none, .chan none, .chan none, .chan none, .chan none, .chan none, .chan none, .chan none, .chan none, .chan none, .chan none, .chan none, .chan none, .chan none, .chan none, .chan none, .chan none, .chan none, .chan none, .chan none, .chan none, .chan none, .chan none, .chan none, .chan none, .chan none, .chan none, .chan none, .chan none, .chan none, .chan none, .chan none, .chan none, .chan none, .chan none, .chan none, .chan none, .chan none, .chan none, .chan none, .chan none, .chan none, .chan none, .chan none, .chan none, .chan none, .chan none, .chan none, .chan none, .chan none, .chan none, .chan none, .chan none, .chan none, .chan none, .chan none, .chan none, .chan none, .chan none, .chan none, .chan none, .chan none, .chan none, .chan none, .chan none, .chan none, .chan none, .chan none, .chan none, .chan none, .chan none, .chan none, .chan none, .chan none, .chan none, .chan none, .chan none, .chan none, .chan none, .chan none, .chan none, .chan none, .chan none, .chan none, .chan none, .chan none, .chan none, .chan none, .chan none, .chan none, .chan none, .chan none, .chan none, .chan none, .chan none, .chan none, .chan none, .chan none, .chan none, .chan none, .chan none, .chan none, .chan none, .chan none, .chan none, .chan none, .chan none, .chan none, .chan none, .chan none, .chan none, .chan none, .chan none, .chan none, .chan none, .chan none, .chan none, .chan none, .chan none, .chan none, .chan none, .chan none, .chan none, .chan none, .chan none, .chan none, .chan none, .chan none, .chan none, .chan none, .chan none, .chan none, .chan none, .chan none, .chan none, .chan none, .chan none, .chan none, .chan none, .chan none, .chan none, .chan none, .chan none, .chan none, .chan none, .chan none, .chan none, .chan none, .chan none, .chan none, .chan none, .chan none, .chan none, .chan none, .chan none, .chan none, .chan none, .chan none, .chan none, .chan none, .chan none, .chan none, .chan none, .chan none, .chan none, .chan none, .chan none]) ?_ ?_
  · refine LS.block ?_
    refine LS.loopJ [0, 1, 7, 9, 12, 14] (fun k a L₁ => ∃ (i : Nat) (s : Dk) (T : List Bool) (V : List (List Nat × List UInt8)) (Y : RL), k = m - i ∧ i ≤ m ∧ W8 c s T ((l, data) :: V) (800 + 400 * i) ∧ T.length = 300 ∧ L₁ = bl c s T (Y ++ G) ∧
      a = [txt data, lv, .chan none, .chan none, .chan none, .chan none, .chan none, ptr c.rd, .chan none, ptr c.rD, .chan none, .chan none, .int .i64 (id : Nat), .chan none, .int .i64 (i : Nat), .chan none, .chan none, .chan none, .chan none, .chan none, .chan none, .chan none, .chan none, .chan none, .chan none, .chan none, .chan none, .chan none, .chan none, .chan none, .chan none, .chan none, .chan none, .chan none, .chan none, .chan none, .chan none, .chan none, .chan none, .chan none, .chan none, .chan none, .chan none, .chan none, .chan none, .chan none, .chan none, .chan none, .chan none, .chan none, .chan none, .chan none, .chan none, .chan none, .chan none, .chan none, .chan none, .chan none, .chan none, .chan none, .chan none, .chan none, .chan none, .chan none, .chan none, .chan none, .chan none, .chan none, .chan none, .chan none, .chan none, .chan none, .chan none, .chan none, .chan none, .chan none, .chan none, .chan none, .chan none, .chan none, .chan none, .chan none, .chan none, .chan none, .chan none, .chan none, .chan none, .chan none, .chan none, .chan none, .chan none, .chan none, .chan none, .chan none, .chan none, .chan none, .chan none, .chan none, .chan none, .chan none, .chan none, .chan none, .chan none, .chan none, .chan none, .chan none, .chan none, .chan none, .chan none, .chan none, .chan none, .chan none, .chan none, .chan none, .chan none, .chan none, .chan none, .chan none, .chan none, .chan none, .chan none, .chan none, .chan none, .chan none, .chan none, .chan none, .chan none, .chan none, .chan none, .chan none, .chan none, .chan none, .chan none, .chan none, .chan none, .chan none, .chan none, .chan none, .chan none, .chan none, .chan none, .chan none, .chan none, .chan none, .chan none, .chan none, .chan none, .chan none, .chan none, .chan none, .chan none, .chan none, .chan none, .chan none, .chan none, .chan none, .chan none, .chan none, .chan none, .chan none, .chan none, .chan none, .chan none, .chan none, .chan none, .chan none, .chan none, .chan none, .chan none, .chan none, .chan none, .chan none, .chan none, .chan none, .chan none, .chan none, .chan none, .chan none, .chan none, .chan none, .chan none, .chan none, .chan none, .chan none, .chan none, .chan none, .chan none, .chan none, .chan none, .chan none, .chan none, .chan none, .chan none, .chan none, .chan none, .chan none, .chan none, .chan none, .chan none, .chan none, .chan none, .chan none, .chan none, .chan none, .chan none, .chan none, .chan none, .chan none, .chan none, .chan none]) (n := m) rfl ⟨0, s4, T3, [], [], rfl, by omega, hW4, hT3l, rfl, rfl⟩ ?_
    rintro k a L₁ ⟨i, s, T, V, Y, rfl, hi, hW, hTl, rfl, rfl⟩
    have hlL : SV 1 (bl c s T (Y ++ G)) lv m (zs.map fun z => .int .i64 z) := hlG.mono (fun p hp => by simp [hp])
    rcases Nat.lt_or_ge i m with him | him
    case inr =>
      have hbi : (!ileB (m : Int) (i : Nat)) = false := by rw [ileB_eq]; simp; omega
      repeat refine LS.seq ?_
      refine LS.region rfl ?_
      refine OS.pure rfl (fun _ => rfl) rfl ?_
      refine OS.pure rfl (fun _ => rfl) rfl ?_
      refine OS.pure rfl (e_len hlL rfl rfl rfl rfl rfl) rfl ?_
      refine OS.pure rfl (e_is (fun _ => rfl) (congrArg Value.bool hbi)) rfl ?_
      refine OS.pure rfl (fun _ => rfl) rfl ?_
      refine OS.skip rfl rfl ?_
      refine OS.skip rfl rfl ?_
      refine OS.skip rfl rfl ?_
      refine OS.pure rfl (fun _ => rfl) rfl ?_
      refine OS.nil ?_
      repeat refine LS.seq ?_
      refine LS.cond rfl (fun hc => by cases hc) (fun hc => ?_)
      refine LS.exit ?_
      exact ⟨s, T, V, Y, hW.mono (by omega), hTl, rfl, rfl⟩
    have hbi : (!ileB (m : Int) (i : Nat)) = true := by rw [ileB_eq]; simp; omega
    repeat refine LS.seq ?_
    refine LS.region rfl ?_
    refine OS.pure rfl (fun _ => rfl) rfl ?_
    refine OS.pure rfl (fun _ => rfl) rfl ?_
    refine OS.pure rfl (e_len hlL rfl rfl rfl rfl rfl) rfl ?_
    refine OS.pure rfl (e_is (fun _ => rfl) (congrArg Value.bool hbi)) rfl ?_
    refine OS.pure rfl (fun _ => rfl) rfl ?_
    refine OS.pure rfl (fun _ => rfl) rfl ?_
    refine OS.call noGo rfl (fun _ => rfl) ((bDead_ct).mono ?_)
    rintro v L₁ ⟨rfl, rfl⟩
    by_cases hdd : s.dead = true
    · rw [hdd]
      refine ⟨_, rfl, ?_⟩
      refine OS.pure rfl (fun _ => rfl) rfl ?_
      refine OS.pure rfl (fun _ => rfl) rfl ?_
      refine OS.nil ?_
      repeat refine LS.seq ?_
      refine LS.cond rfl (fun hc => by cases hc) (fun hc => ?_)
      refine LS.exit ?_
      exact ⟨s, T, V, Y, hW.mono (by omega), hTl, rfl, rfl⟩
    have hdd : s.dead = false := by simpa using hdd
    rw [hdd]
    refine ⟨_, rfl, ?_⟩
    refine OS.pure rfl (fun _ => rfl) rfl ?_
    refine OS.pure rfl (fun _ => rfl) rfl ?_
    refine OS.nil ?_
    repeat refine LS.seq ?_
    refine LS.cond rfl (fun hc => ?_) (fun hc => by cases hc)
    refine LS.skip ?_
    repeat refine LS.seq ?_
    refine LS.block ?_
    obtain ⟨z, hz⟩ : ∃ z, zs[i]? = some z := ⟨_, List.getElem?_eq_getElem (by omega)⟩
    obtain ⟨r, hr⟩ : ∃ r, r = uns z % 5000 := ⟨_, rfl⟩
    repeat refine LS.seq ?_
    refine LS.region rfl ?_
    refine OS.pure rfl (fun _ => rfl) rfl ?_
    refine OS.pure rfl (fun _ => rfl) rfl ?_
    refine OS.at1 (j := i) (hlL) ((show _ = some (Value.int .i64 z) by simp [hz])) rfl rfl rfl rfl rfl rfl (fun ra0 oa0 rowa0 csa0 ma0 ca0 ga0 => ⟨_, rfl, ?_⟩)
    refine OS.read rfl (e_loadm ma0 ca0 rfl rfl (part_one rfl ga0)) rfl ?_
    refine OS.pure rfl (e_uns rfl rfl rfl rfl) rfl ?_
    refine OS.pure rfl (e_is (e_rem (m := uns z) (n := 5000) rfl rfl rfl (by decide)) (congrArg (fun x : Nat => Value.int .u64 (x : Int)) hr.symm)) rfl ?_
    refine OS.pure rfl (e_conv (k' := .i64) rfl rfl rfl rfl (in_i64 (by omega) (by omega))) rfl ?_
    refine OS.pure rfl (fun _ => rfl) rfl ?_
    refine OS.pure rfl (e_conv8 rfl rfl rfl rfl) rfl ?_
    refine OS.call noGo rfl (fun _ => rfl) ((value_ct r (u8of (i : Nat)) (by omega)).mono ?_)
    rintro v L₁ ⟨rfl, rfl⟩
    refine ⟨_, rfl, ?_⟩
    refine OS.pure rfl (fun _ => rfl) rfl ?_
    refine OS.nil ?_
    obtain ⟨d, hd⟩ : ∃ d, d = valB r (u8of (i : Nat)) := ⟨_, rfl⟩
    have hdl : d.length ≤ 1000000 := by rw [hd, valB_len]; omega
    rw [← hd]
    repeat refine LS.seq ?_
    refine LS.region rfl ?_
    refine OS.pure rfl (fun _ => rfl) rfl ?_
    refine OS.pure rfl (fun _ => rfl) rfl ?_
    refine OS.call noGo rfl (fun _ => rfl) ((Put_any (data := d) hW (by omega) hdd hdl rfl).mono ?_)
    rintro v L₁ ⟨Y3, hv⟩
    rcases hv with ⟨_, rfl, rfl⟩ | ⟨hf, hct, rfl, rfl⟩ | ⟨hf, _, hlt, rfl, rfl⟩
    · refine ⟨_, rfl, ?_⟩
      refine OS.pure rfl (fun _ => rfl) rfl ?_
      refine OS.pure rfl (fun _ => rfl) rfl ?_
      refine OS.pure rfl (fun _ => rfl) rfl ?_
      refine OS.pure rfl (fun _ => rfl) rfl ?_
      refine OS.pure rfl (fun _ => rfl) rfl ?_
      refine OS.nil ?_
      repeat refine LS.seq ?_
      refine LS.region rfl ?_
      refine OS.pure rfl (fun _ => rfl) rfl ?_
      refine OS.pure rfl (fun _ => rfl) rfl ?_
      refine OS.pure rfl (fun _ => rfl) rfl ?_
      refine OS.skip rfl rfl ?_
      refine OS.skip rfl rfl ?_
      refine OS.skip rfl rfl ?_
      refine OS.skip rfl rfl ?_
      refine OS.skip rfl rfl ?_
      refine OS.skip rfl rfl ?_
      refine OS.pure rfl (fun _ => rfl) rfl ?_
      refine OS.pure rfl (fun _ => rfl) rfl ?_
      refine OS.skip rfl rfl ?_
      refine OS.skip rfl rfl ?_
      refine OS.skip rfl rfl ?_
      refine OS.skip rfl rfl ?_
      refine OS.pure rfl (fun _ => rfl) rfl ?_
      refine OS.nil ?_
      refine LS.cond rfl (fun hc => by cases hc) (fun hc => ?_)
      refine LS.skip ?_
      repeat refine LS.seq ?_
      refine LS.region rfl ?_
      refine OS.pure rfl (fun _ => rfl) rfl ?_
      refine OS.pure rfl (fun _ => rfl) rfl ?_
      refine OS.pure rfl (fun _ => rfl) rfl ?_
      refine OS.pure rfl (fun _ => rfl) rfl ?_
      refine OS.pure rfl (fun _ => rfl) rfl ?_
      refine OS.pure rfl (fun _ => rfl) rfl ?_
      refine OS.pure rfl (fun _ => rfl) rfl ?_
      refine OS.skip rfl rfl ?_
      refine OS.skip rfl rfl ?_
      refine OS.pure rfl (fun _ => rfl) rfl ?_
      refine OS.nil ?_
      refine LS.cond rfl (fun hc => by cases hc) (fun hc => ?_)
      refine LS.skip ?_
      repeat refine LS.seq ?_
      refine LS.region rfl ?_
      refine OS.pure rfl (fun _ => rfl) rfl ?_
      refine OS.pure rfl (e_add rfl rfl rfl (in_i64 (by omega) (by omega))) rfl ?_
      refine OS.pure rfl (fun _ => rfl) rfl ?_
      refine OS.nil ?_
      exact ⟨m - (i + 1), by omega, i + 1, s, T, V, Y3 ++ Y, rfl, by omega, hW.mono (by omega), hTl, by rw [List.append_assoc], rfl⟩
    · have hWp := hW.put (data := d) (by omega) rfl hf hdl
      obtain ⟨l2, hl2⟩ : ∃ l2, l2 = Z.tkL T (need d.length) := ⟨_, rfl⟩
      have hl20 : l2[0]? = some (Z.ff T) := by rw [hl2]; exact tkL_head (by have := need_two d.length; omega)
      rw [← hl2] at hWp
      have hWp' : W8 c (dkW s T (need d.length) d) (Z.tkT T (need d.length)) (((l, data) :: V) ++ (l2, d) :: []) (800 + 400 * i + 400) := hWp
      have hVp := hWp'.val (v := (l2, d)) (by simp)
      have htp := hWp'.tk (v := (l2, d)) (by simp) (List.mem_of_getElem? hl20)
      have hWd := hWp'.drop
      rw [List.append_nil] at hWd
      refine ⟨_, rfl, ?_⟩
      refine OS.pure rfl (fun _ => rfl) rfl ?_
      refine OS.pure rfl (fun _ => rfl) rfl ?_
      refine OS.pure rfl (fun _ => rfl) rfl ?_
      refine OS.pure rfl (fun _ => rfl) rfl ?_
      refine OS.pure rfl (fun _ => rfl) rfl ?_
      refine OS.nil ?_
      have hlL2 : SV 1 (bl c (dkW s T (need d.length) d) (Z.tkT T (need d.length)) (Y3 ++ (Y ++ G))) lv m (zs.map fun z => .int .i64 z) := hlG.mono (fun p hp => by simp [hp])
      repeat refine LS.seq ?_
      refine LS.region rfl ?_
      refine OS.pure rfl (fun _ => rfl) rfl ?_
      refine OS.pure rfl (fun _ => rfl) rfl ?_
      refine OS.pure rfl (fun _ => rfl) rfl ?_
      refine OS.pure rfl (fun _ => rfl) rfl ?_
      refine OS.pure rfl (fun _ => rfl) rfl ?_
      refine OS.at1 (j := i) (hlL2) ((show _ = some (Value.int .i64 z) by simp [hz])) rfl rfl rfl rfl rfl rfl (fun ra0 oa0 rowa0 csa0 ma0 ca0 ga0 => ⟨_, rfl, ?_⟩)
      refine OS.read rfl (e_loadm ma0 ca0 rfl rfl (part_one rfl ga0)) rfl ?_
      refine OS.pure rfl (fun _ => rfl) rfl ?_
      by_cases heven : ieqB (z.tmod 2) 0 = true
      · refine OS.pure rfl (e_is (fun _ => rfl) (congrArg Value.bool heven)) rfl ?_
        refine OS.pure rfl (fun _ => rfl) rfl ?_
        refine OS.pure rfl (fun _ => rfl) rfl ?_
        refine OS.pure rfl (fun _ => rfl) rfl ?_
        refine OS.pure rfl (fun _ => rfl) rfl ?_
        refine OS.call noGo rfl (fun _ => rfl) ((Drop_ct hWp'.ok rfl hVp hl20 htp).mono ?_)
        rintro v L₁ ⟨rfl, rfl⟩
        refine ⟨_, rfl, ?_⟩
        refine OS.pure rfl (fun _ => rfl) rfl ?_
        refine OS.pure rfl (fun _ => rfl) rfl ?_
        refine OS.nil ?_
        refine LS.cond rfl (fun hc => by cases hc) (fun hc => ?_)
        refine LS.skip ?_
        repeat refine LS.seq ?_
        refine LS.region rfl ?_
        refine OS.pure rfl (fun _ => rfl) rfl ?_
        refine OS.pure rfl (fun _ => rfl) rfl ?_
        refine OS.pure rfl (fun _ => rfl) rfl ?_
        refine OS.skip rfl rfl ?_
        refine OS.skip rfl rfl ?_
        refine OS.pure rfl (fun _ => rfl) rfl ?_
        refine OS.pure rfl (fun _ => rfl) rfl ?_
        refine OS.skip rfl rfl ?_
        refine OS.skip rfl rfl ?_
        refine OS.pure rfl (fun _ => rfl) rfl ?_
        refine OS.nil ?_
        refine LS.cond rfl (fun hc => by cases hc) (fun hc => ?_)
        refine LS.skip ?_
        repeat refine LS.seq ?_
        refine LS.region rfl ?_
        refine OS.pure rfl (fun _ => rfl) rfl ?_
        refine OS.pure rfl (e_add rfl rfl rfl (in_i64 (by omega) (by omega))) rfl ?_
        refine OS.pure rfl (fun _ => rfl) rfl ?_
        refine OS.nil ?_
        exact ⟨m - (i + 1), by omega, i + 1, _, _, V, Y3 ++ Y, rfl, by omega, hWd.mono (by omega), by rw [Z.giveL_len, Z.tkT_len]; exact hTl, by rw [List.append_assoc], rfl⟩
      · have hodd : ieqB (z.tmod 2) 0 = false := by simpa using heven
        refine OS.pure rfl (e_is (fun _ => rfl) (congrArg Value.bool hodd)) rfl ?_
        refine OS.pure rfl (fun _ => rfl) rfl ?_
        refine OS.pure rfl (fun _ => rfl) rfl ?_
        refine OS.skip rfl rfl ?_
        refine OS.skip rfl rfl ?_
        refine OS.skip rfl rfl ?_
        refine OS.skip rfl rfl ?_
        refine OS.pure rfl (fun _ => rfl) rfl ?_
        refine OS.nil ?_
        refine LS.cond rfl (fun hc => by cases hc) (fun hc => ?_)
        refine LS.skip ?_
        repeat refine LS.seq ?_
        refine LS.region rfl ?_
        refine OS.pure rfl (fun _ => rfl) rfl ?_
        refine OS.pure rfl (fun _ => rfl) rfl ?_
        refine OS.pure rfl (fun _ => rfl) rfl ?_
        refine OS.skip rfl rfl ?_
        refine OS.skip rfl rfl ?_
        refine OS.pure rfl (fun _ => rfl) rfl ?_
        refine OS.pure rfl (fun _ => rfl) rfl ?_
        refine OS.skip rfl rfl ?_
        refine OS.skip rfl rfl ?_
        refine OS.pure rfl (fun _ => rfl) rfl ?_
        refine OS.nil ?_
        refine LS.cond rfl (fun hc => by cases hc) (fun hc => ?_)
        refine LS.skip ?_
        repeat refine LS.seq ?_
        refine LS.region rfl ?_
        refine OS.pure rfl (fun _ => rfl) rfl ?_
        refine OS.pure rfl (e_add rfl rfl rfl (in_i64 (by omega) (by omega))) rfl ?_
        refine OS.pure rfl (fun _ => rfl) rfl ?_
        refine OS.nil ?_
        exact ⟨m - (i + 1), by omega, i + 1, _, _, V ++ [(l2, d)], Y3 ++ Y, rfl, by omega, hWp.mono (by omega), by rw [Z.tkT_len]; exact hTl, by rw [List.append_assoc], rfl⟩
    · have hWc := hW.cutPut (data := d) (by omega) hf hlt
      refine ⟨_, rfl, ?_⟩
      refine OS.pure rfl (fun _ => rfl) rfl ?_
      refine OS.pure rfl (fun _ => rfl) rfl ?_
      refine OS.pure rfl (fun _ => rfl) rfl ?_
      refine OS.pure rfl (fun _ => rfl) rfl ?_
      refine OS.pure rfl (fun _ => rfl) rfl ?_
      refine OS.nil ?_
      repeat refine LS.seq ?_
      refine LS.region rfl ?_
      refine OS.pure rfl (fun _ => rfl) rfl ?_
      refine OS.pure rfl (fun _ => rfl) rfl ?_
      refine OS.pure rfl (fun _ => rfl) rfl ?_
      refine OS.skip rfl rfl ?_
      refine OS.skip rfl rfl ?_
      refine OS.skip rfl rfl ?_
      refine OS.skip rfl rfl ?_
      refine OS.skip rfl rfl ?_
      refine OS.skip rfl rfl ?_
      refine OS.pure rfl (fun _ => rfl) rfl ?_
      refine OS.pure rfl (fun _ => rfl) rfl ?_
      refine OS.skip rfl rfl ?_
      refine OS.skip rfl rfl ?_
      refine OS.skip rfl rfl ?_
      refine OS.skip rfl rfl ?_
      refine OS.pure rfl (fun _ => rfl) rfl ?_
      refine OS.nil ?_
      refine LS.cond rfl (fun hc => by cases hc) (fun hc => ?_)
      refine LS.skip ?_
      repeat refine LS.seq ?_
      refine LS.region rfl ?_
      refine OS.pure rfl (fun _ => rfl) rfl ?_
      refine OS.pure rfl (fun _ => rfl) rfl ?_
      refine OS.pure rfl (fun _ => rfl) rfl ?_
      refine OS.pure rfl (fun _ => rfl) rfl ?_
      refine OS.pure rfl (fun _ => rfl) rfl ?_
      refine OS.pure rfl (fun _ => rfl) rfl ?_
      refine OS.pure rfl (fun _ => rfl) rfl ?_
      refine OS.pure rfl (fun _ => rfl) rfl ?_
      refine OS.pure rfl (fun _ => rfl) rfl ?_
      refine OS.pure rfl (fun _ => rfl) rfl ?_
      refine OS.nil ?_
      refine LS.cond rfl (fun hc => by cases hc) (fun hc => ?_)
      refine LS.skip ?_
      repeat refine LS.seq ?_
      refine LS.region rfl ?_
      refine OS.pure rfl (fun _ => rfl) rfl ?_
      refine OS.pure rfl (e_add rfl rfl rfl (in_i64 (by omega) (by omega))) rfl ?_
      refine OS.pure rfl (fun _ => rfl) rfl ?_
      refine OS.nil ?_
      exact ⟨m - (i + 1), by omega, i + 1, _, T, V, Y3 ++ Y, rfl, by omega, hWc.mono (by omega), hTl, by rw [List.append_assoc], rfl⟩
  rintro a L₁ ⟨s, T, V, Y, hW, hT3l, rfl, rfl⟩
  have hlr : Rises l := (hW.h.val (l, data) (List.mem_cons_self ..)).rises
  refine LS.seq ?_
  refine LS.mid [0, 7, 12] (fun a L₁ => ∃ (rd rb : Nat) (s : Dk) (X : RL), s.ok ∧ s.dead = false ∧ s.n = 512 ∧ blk s.D 1 = zeros ∧ Val s.D 150 300 l data ∧ L₁ = dk rd rb s X ∧
    a = [txt data, .chan none, .chan none, .chan none, .chan none, .chan none, .chan none, ptr rd, .chan none, .chan none, .chan none, .chan none, .int .i64 (id : Nat), .chan none, .chan none, .chan none, .chan none, .chan none, .chan none, .chan none, .chan none, .chan none, .chan none, .chan none, .chan none, .chan none, .chan none, .chan none, .chan none, .chan none, .chan none, .chan none, .chan none, .chan none, .chan none, .chan none, .chan none, .chan none, .chan none, .chan none, .chan none, .chan none, .chan none, .chan none, .chan none, .chan none, .chan none, .chan none, .chan none, .chan none, .chan none, .chan none, .chan none, .chan none, .chan none, .chan none, .chan none, .chan none, .chan none, .chan none, .chan none, .chan none, .chan none, .chan none, .chan none, .chan none, .chan none, .chan none, .chan none, .chan none, .chan none, .chan none, .chan none, .chan none, .chan none, .chan none, .chan none, .chan none, .chan none, .chan none, .chan none, .chan none, .chan none, .chan none, .chan none, .chan none, .chan none, .chan none, .chan none, .chan none, .chan none, .chan none, .chan none, .chan none, .chan none, .chan none, .chan none, .chan none, .chan none, .chan none, .chan none, .chan none, .chan none, .chan none, .chan none, .chan none, .chan none, .chan none, .chan none, .chan none, .chan none, .chan none, .chan none, .chan none, .chan none, .chan none, .chan none, .chan none, .chan none, .chan none, .chan none, .chan none, .chan none, .chan none, .chan none, .chan none, .chan none, .chan none, .chan none, .chan none, .chan none, .chan none, .chan none, .chan none, .chan none, .chan none, .chan none, .chan none, .chan none, .chan none, .chan none, .chan none, .chan none, .chan none, .chan none, .chan none, .chan none, .chan none, .chan none, .chan none, .chan none, .chan none, .chan none, .chan none, .chan none, .chan none, .chan none, .chan none, .chan none, .chan none, .chan none, .chan none, .chan none, .chan none, .chan none, .chan none, .chan none, .chan none, .chan none, .chan none, .chan none, .chan none, .chan none, .chan none, .chan none, .chan none, .chan none, .chan none, .chan none, .chan none, .chan none, .chan none, .chan none, .chan none, .chan none, .chan none, .chan none, .chan none, .chan none, .chan none, .chan none, .chan none, .chan none, .chan none, .chan none, .chan none, .chan none, .chan none, .chan none, .chan none, .chan none, .chan none, .chan none, .chan none, .chan none, .chan none, .chan none, .chan none, .chan none, .chan none]) ?_ ?_
  · repeat refine LS.seq ?_
    refine LS.region rfl ?_
    refine OS.pure rfl (fun _ => rfl) rfl ?_
    refine OS.call noGo rfl (fun _ => rfl) ((bDead_ct).mono ?_)
    rintro v L₁ ⟨rfl, rfl⟩
    by_cases hdd : s.dead = true
    · rw [hdd]
      refine ⟨_, rfl, ?_⟩
      refine OS.nil ?_
      refine LS.cond rfl (fun hc => ?_) (fun hc => by cases hc)
      refine LS.sub (Sub.pulls [3, 3] rfl) ?_
      repeat refine LS.seq ?_
      refine LS.region rfl ?_
      refine OS.pure rfl (fun _ => rfl) rfl ?_
      refine OS.call noGo rfl (fun _ => rfl) ((Reopen_ct hW.ok.ok hdd).mono ?_)
      rintro v L₁ ⟨rd', rb', rfl, rfl⟩
      refine ⟨_, rfl, ?_⟩
      refine OS.pure rfl (fun _ => rfl) rfl ?_
      refine OS.pure rfl (fun _ => rfl) rfl ?_
      refine OS.pure rfl (fun _ => rfl) rfl ?_
      refine OS.pure rfl (fun _ => rfl) rfl ?_
      refine OS.pure rfl (fun _ => rfl) rfl ?_
      refine OS.nil ?_
      repeat refine LS.seq ?_
      refine LS.region rfl ?_
      refine OS.pure rfl (fun _ => rfl) rfl ?_
      refine OS.pure rfl (fun _ => rfl) rfl ?_
      refine OS.nil ?_
      refine LS.cond rfl (fun hc => by cases hc) (fun hc => ?_)
      refine LS.skip ?_
      exact ⟨rd', rb', ⟨s.n, s.D, 0, false, 0, false⟩, _, ⟨hW.ok.ok.1, hW.ok.ok.2.1, hW.ok.ok.2.2.1, Nat.zero_le _, Nat.zero_le _⟩, rfl, hW.n, hW.z, by rw [← hT3l]; exact hW.h.val (l, data) (List.mem_cons_self ..), rfl, rfl⟩
    · have hdd : s.dead = false := by simpa using hdd
      rw [hdd]
      refine ⟨_, rfl, ?_⟩
      refine OS.nil ?_
      refine LS.cond rfl (fun hc => by cases hc) (fun hc => ?_)
      repeat refine LS.seq ?_
      refine LS.region rfl ?_
      refine OS.pure rfl (fun _ => rfl) rfl ?_
      refine OS.pure rfl (fun _ => rfl) rfl ?_
      refine OS.call noGo rfl (fun _ => rfl) ((Get_ct hW.ok hdd (hW.val (v := (l, data)) (List.mem_cons_self ..)) hl0 (hW.tk (v := (l, data)) (List.mem_cons_self ..) (List.mem_of_getElem? hl0))).mono ?_)
      rintro v L₁ ⟨rfl, rfl⟩
      refine ⟨_, rfl, ?_⟩
      refine OS.pure rfl (fun _ => rfl) rfl ?_
      refine OS.pure rfl (fun _ => rfl) rfl ?_
      refine OS.pure rfl (fun _ => rfl) rfl ?_
      refine OS.pure rfl (fun _ => rfl) rfl ?_
      refine OS.pure rfl (fun _ => rfl) rfl ?_
      refine OS.nil ?_
      repeat refine LS.seq ?_
      refine LS.region rfl ?_
      refine OS.pure rfl (fun _ => rfl) rfl ?_
      refine OS.pure rfl (fun _ => rfl) rfl ?_
      refine OS.pure rfl (fun _ => rfl) rfl ?_
      refine OS.pure rfl (fun _ => rfl) rfl ?_
      refine OS.pure rfl (fun _ => rfl) rfl ?_
      refine OS.pure rfl (e_is (fun _ => rfl) (congrArg Value.bool (show (!bytesEq data data) = false by rw [str_same]; rfl))) rfl ?_
      refine OS.pure rfl (fun _ => rfl) rfl ?_
      refine OS.pure rfl (fun _ => rfl) rfl ?_
      refine OS.pure rfl (fun _ => rfl) rfl ?_
      refine OS.call noGo rfl (fun _ => rfl) ((bCut_ct hdd 1000000 (by omega)).mono ?_)
      rintro v L₁ ⟨rfl, rfl⟩
      refine ⟨_, rfl, ?_⟩
      refine OS.pure rfl (fun _ => rfl) rfl ?_
      refine OS.pure rfl (fun _ => rfl) rfl ?_
      refine OS.nil ?_
      refine LS.cond rfl (fun hc => by cases hc) (fun hc => ?_)
      refine LS.sub (Sub.pulls [3, 3] rfl) ?_
      refine LS.skip ?_
      have hok := hW.ok.ok
      exact ⟨c.rd, c.rb, ⟨s.n, s.D, s.wr, true, 1000000, s.dead⟩, _, ⟨hok.1, hok.2.1, hok.2.2.1, hok.2.2.2.1, by show (1000000 : Nat) ≤ _; omega⟩, hdd, hW.n, hW.z, by rw [← hT3l]; exact hW.h.val (l, data) (List.mem_cons_self ..), rfl, rfl⟩
  rintro a L₁ ⟨rd, rb, s', X, hok, hd', hn', hz', hV', rfl, rfl⟩
  have hll : l.length = n := by rw [hV'.len, hn]
  obtain ⟨T9, hT9⟩ : ∃ T9, T9 = List.replicate 300 false := ⟨_, rfl⟩
  have hT9l : T9.length = 300 := by rw [hT9]; simp
  have hT9t : ∀ x, Z.tkn T9 x = false := fun x => by rw [hT9]; exact Z.tkn_zeros ..
  have hT9f : Z.frees T9 = 300 := by rw [hT9, Z.frees_zeros]
  repeat refine LS.seq ?_
  refine LS.region rfl ?_
  refine OS.pure rfl (fun _ => rfl) rfl ?_
  refine OS.call noGo rfl (fun _ => rfl) ((Open_idle hok hd' hz').mono ?_)
  rintro v L₁ ⟨rj, Y9, rfl, rfl⟩
  refine ⟨_, rfl, ?_⟩
  refine OS.pure rfl (fun _ => rfl) rfl ?_
  refine OS.pure rfl (fun _ => rfl) rfl ?_
  refine OS.pure rfl (fun _ => rfl) rfl ?_
  refine OS.pure rfl (fun _ => rfl) rfl ?_
  refine OS.pure rfl (fun _ => rfl) rfl ?_
  refine OS.nil ?_
  repeat refine LS.seq ?_
  refine LS.region rfl ?_
  refine OS.call noGo rfl (fun _ => rfl) ((Z.New_ct 300 (by omega)).mono ?_)
  rintro v L₁ ⟨rm, rf, rfl, rfl⟩
  rw [← hT9]
  refine ⟨_, rfl, ?_⟩
  refine OS.pure rfl (fun _ => rfl) rfl ?_
  refine OS.pure rfl (fun _ => rfl) rfl ?_
  refine OS.pure rfl (fun _ => rfl) rfl ?_
  refine OS.pure rfl (fun _ => rfl) rfl ?_
  refine OS.pure rfl (fun _ => rfl) rfl ?_
  refine OS.sub (Sub.pulls [4, 4, 4] rfl) ?_
  refine OS.nil ?_
  repeat refine LS.seq ?_
  refine LS.region rfl ?_
  refine OS.pure rfl (fun _ => rfl) rfl ?_
  refine OS.pure rfl (fun _ => rfl) rfl ?_
  refine OS.call noGo rfl (fun _ => rfl) ((Open_ct (base := 150) (by omega) (by omega) (by omega)).mono ?_)
  rintro v L₁ ⟨rD, rfl, rfl⟩
  have hB9 : ∀ T', T'.length = 300 → Bok ⟨rD, rj, rd, rb, rm, rf, 150⟩ s' T' := fun T' hT' => ⟨hok, by omega, by show 121 < 150; omega, by show 150 + T'.length ≤ s'.n; omega⟩
  refine ⟨_, rfl, ?_⟩
  refine OS.pure rfl (fun _ => rfl) rfl ?_
  refine OS.pure rfl (fun _ => rfl) rfl ?_
  refine OS.pure rfl (fun _ => rfl) rfl ?_
  refine OS.pure rfl (fun _ => rfl) rfl ?_
  refine OS.pure rfl (fun _ => rfl) rfl ?_
  refine OS.nil ?_
  repeat refine LS.seq ?_
  refine LS.region rfl ?_
  refine OS.pure rfl (fun _ => rfl) rfl ?_
  refine OS.pure rfl (fun _ => rfl) rfl ?_
  refine OS.pure rfl (fun _ => rfl) rfl ?_
  refine OS.pure rfl (fun _ => rfl) rfl ?_
  refine OS.pure rfl (fun _ => rfl) rfl ?_
  refine OS.pure rfl (fun _ => rfl) rfl ?_
  refine OS.pure rfl (fun _ => rfl) rfl ?_
  refine OS.pure rfl (fun _ => rfl) rfl ?_
  refine OS.pure rfl (fun _ => rfl) rfl ?_
  refine OS.pure rfl (fun _ => rfl) rfl ?_
  refine OS.pure rfl (fun _ => rfl) rfl ?_
  refine OS.pure rfl (fun _ => rfl) rfl ?_
  refine OS.pure rfl (fun _ => rfl) rfl ?_
  refine OS.call noGo rfl (fun _ => rfl) ((Claim_ct (c := ⟨rD, rj, rd, rb, rm, rf, 150⟩) (l := l) (data := data) (hB9 T9 hT9l) hd' (by rw [hT9l]; exact hV') hl0 (fun x _ => hT9t x)).mono ?_)
  rintro v L₁ ⟨rfl, rfl⟩
  have hcl : (claimL T9 l).length = 300 := by rw [claimL_len]; exact hT9l
  have hct := claimL_tkn (T := T9) (l := l) (fun x hx => by rw [hT9l]; exact hV'.lt x hx)
  have hcf := claimL_frees (T := T9) (l := l) (fun x hx => ⟨by rw [hT9l]; exact hV'.lt x hx, hT9t x⟩) hlr.nodup
  refine ⟨_, rfl, ?_⟩
  refine OS.pure rfl (fun _ => rfl) rfl ?_
  refine OS.pure rfl (fun _ => rfl) rfl ?_
  refine OS.nil ?_
  refine LS.cond rfl (fun hc => by cases hc) (fun hc => ?_)
  refine LS.skip ?_
  repeat refine LS.seq ?_
  refine LS.region rfl ?_
  refine OS.pure rfl (fun _ => rfl) rfl ?_
  refine OS.pure rfl (fun _ => rfl) rfl ?_
  refine OS.call noGo rfl (fun _ => rfl) ((Get_ct (c := ⟨rD, rj, rd, rb, rm, rf, 150⟩) (l := l) (data := data) (hB9 _ hcl) hd' (by rw [hcl]; exact hV') hl0 (by rw [hct, decide_eq_true (List.mem_of_getElem? hl0)]; simp)).mono ?_)
  rintro v L₁ ⟨rfl, rfl⟩
  refine ⟨_, rfl, ?_⟩
  refine OS.pure rfl (fun _ => rfl) rfl ?_
  refine OS.pure rfl (fun _ => rfl) rfl ?_
  refine OS.pure rfl (fun _ => rfl) rfl ?_
  refine OS.pure rfl (fun _ => rfl) rfl ?_
  refine OS.pure rfl (fun _ => rfl) rfl ?_
  refine OS.nil ?_
  repeat refine LS.seq ?_
  refine LS.region rfl ?_
  refine OS.pure rfl (fun _ => rfl) rfl ?_
  refine OS.pure rfl (fun _ => rfl) rfl ?_
  refine OS.pure rfl (fun _ => rfl) rfl ?_
  refine OS.pure rfl (fun _ => rfl) rfl ?_
  refine OS.pure rfl (fun _ => rfl) rfl ?_
  refine OS.pure rfl (e_is (fun _ => rfl) (congrArg Value.bool (str_same data))) rfl ?_
  refine OS.pure rfl (fun _ => rfl) rfl ?_
  refine OS.pure rfl (fun _ => rfl) rfl ?_
  refine OS.pure rfl (fun _ => rfl) rfl ?_
  refine OS.call noGo rfl (fun _ => rfl) ((bFree_ct (by omega)).mono ?_)
  rintro v L₁ ⟨rfl, rfl⟩
  refine ⟨_, rfl, ?_⟩
  refine OS.pure rfl (fun _ => rfl) rfl ?_
  refine OS.pure rfl (e_is (fun _ => rfl) (show _ = Value.int .i64 (data.length : Nat) from rfl)) rfl ?_
  refine OS.call noGo rfl (fun _ => rfl) ((refNeed_ct data.length (by omega)).mono ?_)
  rintro v L₁ ⟨rfl, rfl⟩
  rw [← hn]
  refine ⟨_, rfl, ?_⟩
  refine OS.pure rfl (e_is (e_sub (k := .i64) (m := 300) (n := ((n : Nat) : Int)) rfl rfl rfl (in_i64 (by omega) (by omega))) (congrArg (Value.int .i64) (show (300 : Int) - ((n : Nat) : Int) = ((Z.frees (claimL T9 l) : Nat) : Int) by omega))) rfl ?_
  refine OS.pure rfl (e_is (fun _ => rfl) (congrArg Value.bool (show ieqB ((Z.frees (claimL T9 l) : Nat) : Int) ((Z.frees (claimL T9 l) : Nat) : Int) = true by rw [ieqB_eq]; simp))) rfl ?_
  refine OS.pure rfl (fun _ => rfl) rfl ?_
  refine OS.pure rfl (fun _ => rfl) rfl ?_
  refine OS.nil ?_
  refine LS.ret ⟨_, fun _ _ => rfl, ?_⟩
  rfl
end Go.Proofs.Yteiiekfccecoiaa

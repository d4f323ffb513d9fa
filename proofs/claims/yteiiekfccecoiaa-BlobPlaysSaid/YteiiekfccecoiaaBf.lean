/- Layer 8: blocks are taken, one by one, and given back. -/
import Derived.Test.YteiiekfccecoiaaBe
namespace Go.Am
theorem OS.turns {P : Program} {ops rest : List Oper} {o : Oper} {a : Slots} {L : RL} {K : Slots → RL → Prop} {R : Value → RL → Prop} (hw : wantedB ops o a = true) (e : ∀ h, Has h L → ∃ v h₁ L₁, opB P a o h = some (.val v h₁) ∧ Has h₁ L₁ ∧ R v L₁) (k : ∀ v L₁, R v L₁ → ∃ a₁, putAt a o.dst v = some a₁ ∧ OS P ops rest a₁ L₁ K) : OS P ops (o :: rest) a L K :=
  fun h H => let ⟨v, h₁, L₁, e₁, H₁, hR⟩ := e h H; let ⟨_, ep, k⟩ := k v L₁ hR; OQ.val hw e₁ ep (k h₁ H₁)
theorem GV.appendR {e : TypeId} {sz n : Nat} {F L : RL} {v : Value} {cs : List Value} (X : RL) (g : GV e sz F v n cs L) : GV e sz (F ++ X) v n cs (L ++ X) := by
  rcases g with ⟨rfl, rfl, rfl, rfl⟩ | ⟨r, rfl, hl, rfl⟩
  · exact .inl ⟨rfl, rfl, rfl, rfl⟩
  · exact .inr ⟨r, rfl, hl, rfl⟩
section
variable {P : Program} {o : Oper} {a : Slots} {L : RL}
/-- A list grows by any list. -/
theorem e_appendGA (X F : RL) {c : Call} {e : TypeId} {sz bts n m : Nat} {Y : RL} {v x : Value} {cs new : List Value} (g : GV e sz [] v n cs Y) (hs : SV sz (X ++ (Y ++ F)) x m new) (hone : allOne new = true) (ho : o.op = .call c) (hT : appT P c = some (e, sz, bts)) (ha : evs a c.args.toList = some [v, x])
    (hsm : (n + m) * bts ≤ 1000000000000) (hsm2 : n + m ≤ 1000000000000) :
    ∀ h, Has h (X ++ (Y ++ F)) → ∃ u h₁ L₁, opB P a o h = some (.val u h₁) ∧ Has h₁ L₁ ∧ ∃ Y', GV e sz [] u (n + m) (cs ++ new) Y' ∧ L₁ = Y' ++ (X ++ F) := by
  intro h H
  rcases Nat.eq_zero_or_pos m with rfl | hm
  · have hnew : new = [] := by have := hs.len; simpa using this
    subst hnew
    rcases g with ⟨rfl, rfl, rfl, rfl⟩ | ⟨r, rfl, hl, rfl⟩
    · refine ⟨.slice none 0 0, h, X ++ F, ?_, by simpa using H, [], .inl ⟨rfl, rfl, rfl, rfl⟩, rfl⟩
      have hn := hs.lenB
      have hf := hs.first H
      have hone' : (allOne ([] : List Value) && (notText x || Nat.beq sz 1)) = true := by rw [hone, hs.notText]; rfl
      unfold appT at hT
      split at hT
      case h_2 => cases hT
      rename_i hcal
      split at hT
      case h_2 => cases hT
      rename_i st xt hst hxt
      split at hT
      case h_2 => cases hT
      rename_i e' xd hu1 hu2
      have hxd : (∀ k, xd = .int k → False) ∧ ∃ i, P.info? e' = some i ∧ i.size = sz := by
        split at hT
        · cases hT
        · rename_i hno
          split at hT
          case h_2 => cases hT
          rename_i i hi hz
          simp at hT
          obtain ⟨rfl, rfl, rfl⟩ := hT
          exact ⟨fun k hk => hno k hk, i, hi, rfl⟩
      obtain ⟨hno, i, hi, rfl⟩ := hxd
      have b1 : Nat.beq 0 openCap = false := beq_false (by decide)
      have b2 : Nat.ble (0 + 0) 0 = true := rfl
      simp only [opB, ho, ha, callOpB, hcal, appendB, hst, hxt, hu1, hu2]
      cases xd <;> first | exact (hno _ rfl).elim | skip
      all_goals simp only [hi, hn, hf, hone', b1, b2, beq_true rfl, ret2]
    · have hX : (X ++ (r, .cells e cs) :: F)[X.length]? = some (r, .cells e cs) := by simp
      have hd : ∀ (X : RL), dropL (X ++ (r, .cells e cs) :: F) X.length = some (X ++ F) := by
        intro X
        induction X with
        | nil => rfl
        | cons y X ih => simp only [List.cons_append, List.length_cons, dropL, ih]
      obtain ⟨r', h₁, e₁, H₁⟩ := e_appendSV X.length hs hone ho hT ha hsm hsm2 hX (cut_all hl) (hd X) h H
      exact ⟨_, h₁, _, e₁, H₁, [(r', .cells e (cs ++ []))], GV.of (by simpa using hl), rfl⟩
  · obtain ⟨r', h₁, e₁, H₁⟩ := e_appendGV X (GV.appendR F g) (by simpa using hs) hm hone ho hT ha hsm hsm2 h (by simpa using H)
    have hl : (cs ++ new).length = (n + m) * sz := by
      have h1 : new.length = m * sz := hs.len
      have h2 : cs.length = n * sz := g.sv.len
      rw [List.length_append, h1, h2, Nat.add_mul]
    exact ⟨_, h₁, _, e₁, H₁, [(r', .cells e (cs ++ new))], GV.of hl, rfl⟩
end
end Go.Am
namespace Go.Proofs.Yteiiekfccecoiaa.Z
open Go.Am
set_option linter.unusedVariables false
set_option maxRecDepth 20000

theorem frees_zeros (n : Nat) : frees (List.replicate n false) = n := by simp [frees, List.countP_replicate]
theorem frees_set {T : List Bool} {i : Nat} (hi : i < T.length) (h : tkn T i = false) : frees (T.set i true) + 1 = frees T := by
  have hti : T[i] = false := by
    have := tkn_in hi
    rw [h, List.getElem?_eq_getElem hi] at this
    simpa using this
  unfold frees
  rw [List.countP_set hi]
  have hpos : 0 < T.countP (fun b => !b) := List.countP_pos_iff.2 ⟨T[i], List.getElem_mem hi, by rw [hti]; rfl⟩
  simp [hti]
  omega
theorem frees_drop {T : List Bool} {i : Nat} (hi : i < T.length) (h : tkn T i = true) : frees (T.set i false) = frees T + 1 := by
  have hti : T[i] = true := by
    have := tkn_in hi
    rw [h, List.getElem?_eq_getElem hi] at this
    simpa using this
  unfold frees
  rw [List.countP_set hi]
  simp [hti]
theorem frees_le (T : List Bool) : frees T ≤ T.length := List.countP_le_length
theorem ff_free {T : List Bool} : ff T < T.length ↔ 0 < frees T := by
  constructor
  · intro h
    have := frees_set h (ff_here h)
    omega
  · intro h
    obtain ⟨b, hb, hp⟩ := List.countP_pos_iff.1 h
    exact List.findIdx_lt_length_of_exists ⟨b, hb, hp⟩

/-- The map behind so many takes; the blocks that were taken. -/
def tkT (T : List Bool) : Nat → List Bool
  | 0 => T
  | n + 1 => (tkT T n).set (ff (tkT T n)) true
def tkL (T : List Bool) (n : Nat) : List Nat := (List.range n).map fun i => ff (tkT T i)
theorem tkT_len (T : List Bool) : ∀ n, (tkT T n).length = T.length
  | 0 => rfl
  | n + 1 => by simp only [tkT, List.length_set]; exact tkT_len T n
theorem tkL_len (T : List Bool) (n : Nat) : (tkL T n).length = n := by simp [tkL]
theorem tkL_succ (T : List Bool) (n : Nat) : tkL T (n + 1) = tkL T n ++ [ff (tkT T n)] := by simp [tkL, List.range_succ]
theorem tkL_at {T : List Bool} {i n : Nat} (h : i < n) : (tkL T n)[i]? = some (ff (tkT T i)) := by simp [tkL, h]
theorem tkT_frees {T : List Bool} : ∀ {n : Nat}, n ≤ frees T → frees (tkT T n) + n = frees T
  | 0, _ => rfl
  | n + 1, h => by
    have h1 := tkT_frees (T := T) (n := n) (by omega)
    have h2 := ff_free (T := tkT T n)
    have h3 : ff (tkT T n) < (tkT T n).length := h2.2 (by omega)
    have := frees_set h3 (ff_here h3)
    simp only [tkT]; omega
theorem tkT_ff {T : List Bool} {n : Nat} (h : n < frees T) : ff (tkT T n) < T.length := by
  have h1 := tkT_frees (T := T) (n := n) (by omega)
  have := (ff_free (T := tkT T n)).2 (by omega)
  rwa [tkT_len] at this
theorem tkT_tkn {T : List Bool} : ∀ {n : Nat}, n ≤ frees T → ∀ j, tkn (tkT T n) j = (tkn T j || decide (j ∈ tkL T n))
  | 0, _, j => by simp [tkT, tkL]
  | n + 1, h, j => by
    have h1 := tkT_tkn (T := T) (n := n) (by omega) j
    have h2 := tkT_ff (T := T) (n := n) (by omega)
    simp only [tkT]
    rw [tkn_set (by rw [tkT_len]; exact h2), h1, tkL_succ]
    by_cases hj : j = ff (tkT T n)
    · simp [hj]
    · simp [hj]
theorem tkL_free {T : List Bool} {n : Nat} (h : n ≤ frees T) {x : Nat} (hx : x ∈ tkL T n) : x < T.length ∧ tkn T x = false := by
  unfold tkL at hx
  obtain ⟨i, hi, rfl⟩ := List.mem_map.1 hx
  rw [List.mem_range] at hi
  have h1 := tkT_ff (T := T) (n := i) (by omega)
  have h2 := ff_here (T := tkT T i) (by rw [tkT_len]; exact h1)
  rw [tkT_tkn (by omega)] at h2
  rw [Bool.or_eq_false_iff] at h2
  exact ⟨h1, h2.1⟩
theorem tkL_step {T : List Bool} {i : Nat} (h : i + 1 < frees T) : ff (tkT T i) < ff (tkT T (i + 1)) := by
  have h1 := tkT_ff (T := T) (n := i) (by omega)
  have h2 := tkT_ff (T := T) (n := i + 1) (by omega)
  have h3 := ff_here (T := tkT T (i + 1)) (by rw [tkT_len]; exact h2)
  simp only [tkT] at h3
  rw [tkn_set (by rw [tkT_len]; exact h1)] at h3
  by_cases he : ff ((tkT T i).set (ff (tkT T i)) true) = ff (tkT T i)
  · rw [if_pos he] at h3; cases h3
  · rw [if_neg he] at h3
    rcases Nat.lt_trichotomy (ff (tkT T i)) (ff (tkT T (i + 1))) with h4 | h4 | h4
    · exact h4
    · exact absurd h4.symm he
    · have h5 : tkn (tkT T i) (ff ((tkT T i).set (ff (tkT T i)) true)) = true := ff_ahead (T := tkT T i) h4
      rw [h5] at h3; cases h3
theorem tkL_rise {T : List Bool} {i : Nat} : ∀ {j : Nat}, i < j → j < frees T → ff (tkT T i) < ff (tkT T j)
  | 0, h, _ => by omega
  | j + 1, h, hj => by
    have h1 := tkL_step (T := T) (i := j) hj
    rcases Nat.lt_or_ge i j with h2 | h2
    · exact Nat.lt_trans (tkL_rise h2 (by omega)) h1
    · rw [show i = j by omega]; exact h1
/-- All blocks of a list are freed. -/
def giveL (T : List Bool) (l : List Nat) : List Bool := l.foldl (fun T i => dropS T (i : Nat)) T
theorem dropS_tkn (T : List Bool) (i j : Nat) (h : i < T.length) : tkn (dropS T (i : Nat)) j = (tkn T j && !decide (j = i)) := by
  unfold dropS dropE
  rw [if_pos (show 0 ≤ (i : Int) ∧ (i : Int) < T.length by omega), Int.toNat_natCast]
  by_cases ht : tkn T i = true
  · rw [if_pos ht, if_pos rfl, tkn_set h]
    by_cases hj : j = i
    · simp [hj]
    · simp [hj]
  · rw [if_neg ht, if_neg (by omega)]
    by_cases hj : j = i
    · subst hj; simp [ht]
    · simp [hj]
theorem giveL_len : ∀ {l : List Nat} {T : List Bool}, (giveL T l).length = T.length
  | [], T => rfl
  | x :: l, T => by
    show (giveL (dropS T (x : Nat)) l).length = _
    rw [giveL_len, dropS_len]
theorem giveL_tkn : ∀ {l : List Nat} {T : List Bool}, (∀ x ∈ l, x < T.length) → ∀ j, tkn (giveL T l) j = (tkn T j && !decide (j ∈ l))
  | [], T, _, j => by simp [giveL]
  | x :: l, T, h, j => by
    show tkn (giveL (dropS T (x : Nat)) l) j = _
    rw [giveL_tkn (fun y hy => by rw [dropS_len]; exact h y (List.mem_cons_of_mem _ hy)), dropS_tkn T x j (h x (List.mem_cons_self ..))]
    by_cases h1 : j = x <;> by_cases h2 : j ∈ l <;> simp [h1, h2]
theorem giveL_back {T : List Bool} {n : Nat} (h : n ≤ frees T) : giveL (tkT T n) (tkL T n) = T := by
  refine list_ext (by rw [giveL_len, tkT_len]) fun j => ?_
  rw [giveL_tkn (fun x hx => by rw [tkT_len]; exact (tkL_free h hx).1), tkT_tkn h]
  by_cases hj : j ∈ tkL T n
  · simp [hj, (tkL_free h hj).2]
  · simp [hj]
end Go.Proofs.Yteiiekfccecoiaa.Z
namespace Go.Proofs.Yteiiekfccecoiaa
open Go.Am
set_option linter.unusedVariables false
set_option maxRecDepth 20000

theorem giveBack_ct {F : RL} {rm rf : Nat} {T : List Bool} {lv : Value} {n : Nat} {l : List Nat} (hT : T.length ≤ 32768) (hl : SV 1 F lv n (ints l)) (hn : n ≤ 1000000) :
    CS Try.prog 44 [ptr rm, lv] (Z.fm rm rf T F) fun v L' => L' = Z.fm rm rf (Z.giveL T l) F := by
  have hln : l.length = n := by have := hl.len; simp at this; exact this
  refine CS.mk (fn := Try.f44) rfl rfl rfl rfl ?_
  repeat refine LS.seq ?_
  refine LS.region rfl ?_
  refine OS.pure rfl (fun _ => rfl) rfl ?_
  refine OS.pure rfl (e_len hl rfl rfl rfl rfl rfl) rfl ?_
  refine OS.pure rfl (fun _ => rfl) rfl ?_
  refine OS.nil ?_
  repeat refine LS.seq ?_
  refine LS.block ?_
  refine LS.loopJ [0, 6, 7, 8] (fun q a L' => ∃ i, q = n - i ∧ i ≤ n ∧ L' = Z.fm rm rf (Z.giveL T (l.take i)) F ∧
    a = [ptr rm, .chan none, .chan none, .chan none, .chan none, .chan none, lv, .int .i64 (n : Nat), .int .i64 (i : Nat), .chan none, .chan none, .chan none, .chan none, .chan none, .chan none, .chan none]) (n := n) rfl ⟨0, rfl, by omega, rfl, rfl⟩ ?_
  rintro q a L' ⟨i, rfl, hi, rfl, rfl⟩
  repeat refine LS.seq ?_
  refine LS.region rfl ?_
  refine OS.pure rfl (fun _ => rfl) rfl ?_
  refine OS.nil ?_
  repeat refine LS.seq ?_
  refine LS.cond rfl (fun hc => ?_) (fun hc => ?_)
  · have hc : (i : Int) < n := lt_of hc
    have hin : i < n := by omega
    have hget : l[i]? = some l[i] := List.getElem?_eq_getElem (by omega)
    refine LS.skip ?_
    repeat refine LS.seq ?_
    refine LS.block ?_
    repeat refine LS.seq ?_
    refine LS.region rfl ?_
    refine OS.at1 (j := i) ((hl.cons.cons)) ((show _ = some (Value.int .i64 (l[i] : Nat)) by simp [hget])) rfl rfl rfl rfl rfl rfl (fun ra0 oa0 rowa0 csa0 ma0 ca0 ga0 => ⟨_, rfl, ?_⟩)
    refine OS.read rfl (e_loadm ma0 ca0 rfl rfl (part_one rfl ga0)) rfl ?_
    refine OS.pure rfl (fun _ => rfl) rfl ?_
    refine OS.nil ?_
    repeat refine LS.seq ?_
    refine LS.region rfl ?_
    refine OS.pure rfl (fun _ => rfl) rfl ?_
    refine OS.pure rfl (fun _ => rfl) rfl ?_
    refine OS.call noGo rfl (fun _ => rfl) ((Z.Drop_ct (by rw [Z.giveL_len]; exact hT) (l[i] : Nat)).mono ?_)
    rintro v L' ⟨rfl, rfl⟩
    refine ⟨_, rfl, ?_⟩
    refine OS.nil ?_
    repeat refine LS.seq ?_
    refine LS.region rfl ?_
    refine OS.pure rfl (e_add rfl rfl rfl (in_i64 (by omega) (by omega))) rfl ?_
    refine OS.pure rfl (fun _ => rfl) rfl ?_
    refine OS.nil ?_
    refine ⟨n - (i + 1), by omega, i + 1, rfl, by omega, ?_, rfl⟩
    rw [List.take_add_one, hget]
    unfold Z.giveL
    rw [List.foldl_append]
    rfl
  have hc : (n : Int) ≤ i := nlt_of hc
  have hin : i = l.length := by omega
  subst hin
  rw [List.take_length]
  refine LS.exit ?_
  refine ⟨_, fun _ _ => rfl, ?_⟩
  rfl

/-- So many blocks are taken, the least free one each time; or none is, if there are too few. -/
theorem take_ct {F : RL} {rc rm rf : Nat} {T : List Bool} (n : Nat) (hT : T.length ≤ 32768) (hn : n ≤ 1000000) :
    CS Try.prog 61 [.int .i64 (n : Nat), ptr rc] ((rc, .cells 34 [ptr rm]) :: Z.fm rm rf T F) fun v L' =>
      (n ≤ Z.frees T ∧ ∃ u Y, v = .tuple #[u, .int .i64 0] ∧ GV 3 1 [] u n (ints (Z.tkL T n)) Y ∧ L' = Y ++ ((rc, .cells 34 [ptr rm]) :: Z.fm rm rf (Z.tkT T n) F)) ∨
      (Z.frees T < n ∧ v = .tuple #[.slice none 0 0, .int .i64 3] ∧ ∃ Y, L' = Y ++ ((rc, .cells 34 [ptr rm]) :: Z.fm rm rf T F)) := by
  have hfl := Z.frees_le T
  refine CS.mk (fn := Try.f61) rfl rfl rfl rfl ?_
  repeat refine LS.seq ?_
  refine LS.region rfl ?_
  refine OS.pure rfl (fun _ => rfl) rfl ?_
  refine OS.pure rfl (fun _ => rfl) rfl ?_
  refine OS.nil ?_
  repeat refine LS.seq ?_
  refine LS.region rfl ?_
  refine OS.pure rfl (fun _ => rfl) rfl ?_
  refine OS.nil ?_
  repeat refine LS.seq ?_
  refine LS.region rfl ?_
  refine OS.pure rfl (fun _ => rfl) rfl ?_
  refine OS.pure rfl (fun _ => rfl) rfl ?_
  refine OS.nil ?_
  repeat refine LS.seq ?_
  refine LS.block ?_
  refine LS.loopJ [1, 5, 8, 9] (fun q a L' => ∃ i u Y, q = n - i ∧ i ≤ n ∧ i ≤ Z.frees T ∧ GV 3 1 [] u i (ints (Z.tkL T i)) Y ∧ L' = Y ++ ((rc, .cells 34 [ptr rm]) :: Z.fm rm rf (Z.tkT T i) F) ∧
    a = [.chan none, ptr rc, .chan none, .chan none, .chan none, u, .chan none, .chan none, .int .i64 (n : Nat), .int .i64 (i : Nat), .chan none, .chan none, .chan none, .chan none, .chan none, .chan none, .chan none, .chan none, .chan none, .chan none, .chan none, .chan none, .chan none, .chan none, .chan none, .chan none, .chan none, .chan none]) (n := n) rfl ⟨0, .slice none 0 0, [], rfl, by omega, by omega, GV.nil, rfl, rfl⟩ ?_
  rintro q a L' ⟨i, u, Y, rfl, hi, hif, hg, rfl, rfl⟩
  have htl := Z.tkT_len T i
  repeat refine LS.seq ?_
  refine LS.region rfl ?_
  refine OS.pure rfl (fun _ => rfl) rfl ?_
  refine OS.nil ?_
  repeat refine LS.seq ?_
  refine LS.cond rfl (fun hc => ?_) (fun hc => ?_)
  · have hc : (i : Int) < n := lt_of hc
    have hin : i < n := by omega
    refine LS.skip ?_
    repeat refine LS.seq ?_
    refine LS.block ?_
    refine LS.sub (Sub.sums (A := (rc, .cells 34 [ptr rm]) :: Z.fm rm rf (Z.tkT T i) (Y ++ F)) fun f => by simp [Z.fm]; omega) ?_
    repeat refine LS.seq ?_
    refine LS.region rfl ?_
    refine OS.read rfl (e_load 0 rfl rfl rfl rfl rfl) rfl ?_
    refine OS.sub (Sub.pulls [2, 2] rfl) ?_
    refine OS.call noGo rfl (fun _ => rfl) ((Z.Take_ct (by omega)).mono ?_)
    rintro v L' ⟨rfl, rfl⟩
    have hfr := Z.tkT_frees hif
    by_cases hfree : i < Z.frees T
    · have hff := Z.tkT_ff hfree
      have e1 : Z.takeI (Z.tkT T i) = Z.ff (Z.tkT T i) := by unfold Z.takeI; rw [if_pos (by omega)]
      have e2 : Z.takeE (Z.tkT T i) = 0 := by unfold Z.takeE; rw [if_pos (by omega)]
      have e3 : Z.takeS (Z.tkT T i) = Z.tkT T (i + 1) := by unfold Z.takeS; rw [if_pos (by omega)]; rfl
      rw [e1, e2, e3]
      refine ⟨_, rfl, ?_⟩
      refine OS.pure rfl (fun _ => rfl) rfl ?_
      refine OS.pure rfl (fun _ => rfl) rfl ?_
      refine OS.pure rfl (fun _ => rfl) rfl ?_
      refine OS.pure rfl (fun _ => rfl) rfl ?_
      refine OS.pure rfl (fun _ => rfl) rfl ?_
      refine OS.nil ?_
      repeat refine LS.seq ?_
      refine LS.region rfl ?_
      refine OS.pure rfl (fun _ => rfl) rfl ?_
      refine OS.pure rfl (fun _ => rfl) rfl ?_
      refine OS.nil ?_
      refine LS.cond rfl (fun hc => by cases hc) (fun hc => ?_)
      refine LS.skip ?_
      refine LS.sub (Sub.sums (A := Y ++ ((rc, .cells 34 [ptr rm]) :: Z.fm rm rf (Z.tkT T (i + 1)) F)) fun f => by simp [Z.fm]; omega) ?_
      repeat refine LS.seq ?_
      refine LS.region rfl ?_
      refine OS.pure rfl (fun _ => rfl) rfl ?_
      refine OS.pure rfl (fun _ => rfl) rfl ?_
      refine OS.fresh rfl (e_new (fun _ => rfl) rfl) (fun _ => rfl) (fun r2 => ?_)
      refine OS.turns rfl (e_appendGA [(r2, _)] ((rc, .cells 34 [ptr rm]) :: Z.fm rm rf (Z.tkT T (i + 1)) F) (e := 3) (sz := 1) (bts := 8) (m := 1) hg (SV.row (sz := 1) (n := 1) (List.mem_cons_self ..) rfl) rfl rfl rfl rfl (by omega) (by omega)) (fun u2 L₁ hR => ?_)
      obtain ⟨Y', hg', rfl⟩ := hR
      rw [show ints (Z.tkL T i) ++ [Value.int .i64 (Z.ff (Z.tkT T i) : Nat)] = ints (Z.tkL T (i + 1)) by rw [Z.tkL_succ]; simp] at hg'
      refine ⟨_, rfl, ?_⟩
      refine OS.pure rfl (fun _ => rfl) rfl ?_
      refine OS.sub (Sub.sums2 [(r2, .cells 3 [Value.int .i64 (Z.ff (Z.tkT T i) : Nat)])] (A := Y' ++ ((rc, .cells 34 [ptr rm]) :: Z.fm rm rf (Z.tkT T (i + 1)) F)) fun f => by simp [Z.fm]; omega) ?_
      refine OS.nil ?_
      repeat refine LS.seq ?_
      refine LS.region rfl ?_
      refine OS.pure rfl (e_add rfl rfl rfl (in_i64 (by omega) (by omega))) rfl ?_
      refine OS.pure rfl (fun _ => rfl) rfl ?_
      refine OS.nil ?_
      exact ⟨n - (i + 1), by omega, i + 1, u2, Y', rfl, by omega, by omega, hg', rfl, rfl⟩
    · have hie : i = Z.frees T := by omega
      have hff : ¬ Z.ff (Z.tkT T i) < (Z.tkT T i).length := fun h => by
        have := Z.ff_free.1 h; omega
      have e1 : Z.takeI (Z.tkT T i) = 0 := by unfold Z.takeI; rw [if_neg hff]
      have e2 : Z.takeE (Z.tkT T i) = 3 := by unfold Z.takeE; rw [if_neg hff]
      have e3 : Z.takeS (Z.tkT T i) = Z.tkT T i := by unfold Z.takeS; rw [if_neg hff]
      rw [e1, e2, e3]
      refine ⟨_, rfl, ?_⟩
      refine OS.pure rfl (fun _ => rfl) rfl ?_
      refine OS.pure rfl (fun _ => rfl) rfl ?_
      refine OS.pure rfl (fun _ => rfl) rfl ?_
      refine OS.pure rfl (fun _ => rfl) rfl ?_
      refine OS.pure rfl (fun _ => rfl) rfl ?_
      refine OS.nil ?_
      repeat refine LS.seq ?_
      refine LS.region rfl ?_
      refine OS.pure rfl (fun _ => rfl) rfl ?_
      refine OS.pure rfl (fun _ => rfl) rfl ?_
      refine OS.nil ?_
      refine LS.cond rfl (fun hc => ?_) (fun hc => by cases hc)
      repeat refine LS.seq ?_
      refine LS.region rfl ?_
      refine OS.read rfl (e_load 2 rfl rfl rfl rfl rfl) rfl ?_
      refine OS.pure rfl (fun _ => rfl) rfl ?_
      refine OS.call noGo rfl (fun _ => rfl) ((giveBack_ct (by omega) (hg.sv.mono (fun p hp => List.mem_cons_of_mem _ (List.mem_append_left _ hp))) (by omega)).mono ?_)
      rintro v L' rfl
      rw [Z.giveL_back hif]
      refine ⟨_, rfl, ?_⟩
      refine OS.nil ?_
      refine LS.sub (Sub.sums (A := Y ++ ((rc, .cells 34 [ptr rm]) :: Z.fm rm rf T F)) fun f => by simp [Z.fm]; omega) ?_
      repeat refine LS.seq ?_
      refine LS.region rfl ?_
      refine OS.pure rfl (fun _ => rfl) rfl ?_
      refine OS.pure rfl (fun _ => rfl) rfl ?_
      refine OS.pure rfl (fun _ => rfl) rfl ?_
      refine OS.nil ?_
      refine LS.ret ⟨_, fun _ _ => rfl, ?_⟩
      exact .inr ⟨by omega, rfl, Y, rfl⟩
  have hc : (n : Int) ≤ i := nlt_of hc
  have hin : i = n := by omega
  subst hin
  refine LS.exit ?_
  repeat refine LS.seq ?_
  refine LS.region rfl ?_
  refine OS.pure rfl (fun _ => rfl) rfl ?_
  refine OS.pure rfl (fun _ => rfl) rfl ?_
  refine OS.pure rfl (fun _ => rfl) rfl ?_
  refine OS.nil ?_
  refine LS.ret ⟨_, fun _ _ => rfl, ?_⟩
  exact .inl ⟨hif, u, Y, rfl, hg, rfl⟩
theorem taker_ct {L : RL} (v : Value) (hv : isJ v = false ∧ v.cells.toList = [v]) : CS Try.prog 41 [v] L fun w L' => ∃ rc, w = .func (.func 61) #[] #[ptr rc] ∧ L' = (rc, .cells 34 [v]) :: L := by
  refine CS.mk (fn := Try.f41) rfl rfl rfl rfl ?_
  repeat refine LS.seq ?_
  refine LS.region rfl ?_
  refine OS.fresh rfl (e_box rfl rfl hv rfl) (fun _ => rfl) (fun rc => ?_)
  refine OS.pure rfl (fun _ => rfl) rfl ?_
  refine OS.nil ?_
  repeat refine LS.seq ?_
  refine LS.region rfl ?_
  refine OS.pure rfl (fun _ => rfl) rfl ?_
  refine OS.pure rfl (fun _ => rfl) rfl ?_
  refine OS.nil ?_
  refine LS.ret ⟨_, fun _ _ => rfl, ?_⟩
  exact ⟨rc, rfl, rfl⟩
end Go.Proofs.Yteiiekfccecoiaa

/- Layer 3: a list's copy, Reopen, Copy, full, works. -/
import Derived.Test.YteiiekfccecoiaaDa
namespace Go.Am
variable {P : Program} {o : Oper} {a : Slots} {L L₁ : RL}
/-- A whole list, copied into a row of its own. -/
theorem e_copy (i : Nat) {c : Call} {st e e' : TypeId} {sz n r cap : Nat} {x : Value} {cs new cs' : List Value} (hs : SV sz L x n new) (hpos : 0 < n) (hone : allOne new = true) (ho : o.op = .call c) (hc : c.callee = .builtin .copy) (ha : evs a c.args.toList = some [.slice (some ⟨r, 0, none⟩) n cap, x])
    (ht : c.argTypes[0]? = some st) (hu : P.underlying st = some (.slice e)) (hz : sizeB P e = some sz) (hL : L[i]? = some (r, .cells e' cs)) (hlay : lay cs 0 new = some cs') (hset : setL L i (r, .cells e' cs') = some L₁) : ∀ h, Has h L → ∃ h₁, opB P a o h = some (.val (.int .i64 n) h₁) ∧ Has h₁ L₁ := by
  intro h H
  obtain ⟨h₁, e₁⟩ := h.put_some r (some (.cells e' cs'))
  have := setL_eq hset
  subst this
  have hb : Nat.beq n 0 = false := by cases n with | zero => omega | succ n => rfl
  have hmin : Nat.min n n = n := Nat.min_self n
  refine ⟨h₁, ?_, H.put hL e₁⟩
  simp only [opB, ho, ha, callOpB, hc, copyB, ht, hu, hz, hs.lenB, hmin, hs.first H, hone, hs.notText, hb, H.row hL, hlay, e₁, Bool.true_or, Bool.and_self, ret2, goInt]
end Go.Am
namespace Go.Proofs.Yteiiekfccecoiaa
open Go.Am
set_option linter.unusedVariables false
set_option maxRecDepth 20000

theorem Dead_ct {F : RL} {rd rb : Nat} {s : Dk} : CS Try.prog 32 [ptr rd] (dk rd rb s F) fun v L' => v = .bool s.dead ∧ L' = dk rd rb s F := by
  obtain ⟨n, D, wr, cut, left, dead⟩ := s
  refine CS.mk (fn := Try.f32) rfl rfl rfl rfl ?_
  repeat refine LS.seq ?_
  refine LS.region rfl ?_
  refine OS.pure rfl (fun _ => rfl) rfl ?_
  refine OS.nil ?_
  repeat refine LS.seq ?_
  refine LS.region rfl ?_
  refine OS.pure rfl (fun _ => rfl) rfl ?_
  refine OS.pure rfl (fun _ => rfl) rfl ?_
  refine OS.pure rfl (fun _ => rfl) rfl ?_
  refine OS.pure rfl (fun _ => rfl) rfl ?_
  refine OS.pure rfl (fun _ => rfl) rfl ?_
  refine OS.pure rfl (fun _ => rfl) rfl ?_
  refine OS.read rfl (e_load 0 rfl rfl rfl rfl rfl) rfl ?_
  refine OS.pure rfl (fun _ => rfl) rfl ?_
  refine OS.pure rfl (fun _ => rfl) rfl ?_
  refine OS.nil ?_
  refine LS.ret ⟨_, fun _ _ => rfl, ?_⟩
  exact ⟨rfl, rfl⟩
theorem Writes_ct {F : RL} {rd rb : Nat} {s : Dk} : CS Try.prog 14 [ptr rd] (dk rd rb s F) fun v L' => v = .int .i64 (s.wr : Nat) ∧ L' = dk rd rb s F := by
  obtain ⟨n, D, wr, cut, left, dead⟩ := s
  refine CS.mk (fn := Try.f14) rfl rfl rfl rfl ?_
  repeat refine LS.seq ?_
  refine LS.region rfl ?_
  refine OS.pure rfl (fun _ => rfl) rfl ?_
  refine OS.nil ?_
  repeat refine LS.seq ?_
  refine LS.region rfl ?_
  refine OS.pure rfl (fun _ => rfl) rfl ?_
  refine OS.pure rfl (fun _ => rfl) rfl ?_
  refine OS.nil ?_
  refine LS.cond rfl (fun hc => by cases hc) (fun hc => ?_)
  refine LS.skip ?_
  repeat refine LS.seq ?_
  refine LS.region rfl ?_
  refine OS.pure rfl (fun _ => rfl) rfl ?_
  refine OS.pure rfl (fun _ => rfl) rfl ?_
  refine OS.pure rfl (fun _ => rfl) rfl ?_
  refine OS.read rfl (e_load 0 rfl rfl rfl rfl rfl) rfl ?_
  refine OS.pure rfl (fun _ => rfl) rfl ?_
  refine OS.nil ?_
  refine LS.ret ⟨_, fun _ _ => rfl, ?_⟩
  exact ⟨rfl, rfl⟩

theorem copied_ct {L : RL} {rb n cap : Nat} {D : List UInt8} (hm : (rb, .cells 124 (byteCells D)) ∈ L) (hl : D.length = n * 256) (h0 : 0 < n) (h1 : n ≤ 32768) : CS Try.prog 47 [.slice (some ⟨rb, 0, none⟩) n cap] L fun v L' => ∃ r, v = .slice (some ⟨r, 0, none⟩) n n ∧ L' = (r, .cells 124 (byteCells D)) :: L := by
  refine CS.mk (fn := Try.f47) rfl rfl rfl rfl ?_
  repeat refine LS.seq ?_
  refine LS.region rfl ?_
  refine OS.pure rfl (fun _ => rfl) rfl ?_
  refine OS.nil ?_
  repeat refine LS.seq ?_
  refine LS.region rfl ?_
  refine OS.pure rfl (fun _ => rfl) rfl ?_
  refine OS.pure rfl (fun _ => rfl) rfl ?_
  refine OS.fresh rfl (e_make (l := n) (c := n) rfl rfl rfl makeT_blocks (Nat.le_refl _) (by omega) (by omega)) (fun _ => rfl) (fun r => ?_)
  rw [repL_zeros]
  refine OS.pure rfl (fun _ => rfl) rfl ?_
  refine OS.nil ?_
  repeat refine LS.seq ?_
  refine LS.region rfl ?_
  refine OS.pure rfl (fun _ => rfl) rfl ?_
  refine OS.pure rfl (fun _ => rfl) rfl ?_
  refine OS.write rfl (e_copy 0 (n := n) (sz := 256) (new := byteCells D) (cs' := byteCells D) (SV.row (List.mem_cons_of_mem _ hm) (by rw [byteCells_len]; exact hl)) h0 (byteCells_one _) rfl rfl rfl rfl rfl (by kernel_rfl) rfl (lay_full (by rw [byteCells_len, byteCells_len, List.length_replicate]; exact hl.symm)) rfl) rfl ?_
  refine OS.nil ?_
  repeat refine LS.seq ?_
  refine LS.region rfl ?_
  refine OS.pure rfl (fun _ => rfl) rfl ?_
  refine OS.pure rfl (fun _ => rfl) rfl ?_
  refine OS.nil ?_
  refine LS.ret ⟨_, fun _ _ => rfl, ?_⟩
  exact ⟨r, rfl, rfl⟩

/-- What is reopened: the same blocks, nothing else. -/
theorem Reopen_ct {F : RL} {rd rb : Nat} {s : Dk} (hs : s.ok) (hd : s.dead = true) : CS Try.prog 24 [ptr rd] (dk rd rb s F) fun v L' => ∃ rd' rb', v = .tuple #[ptr rd', .int .i64 0] ∧ L' = dk rd' rb' ⟨s.n, s.D, 0, false, 0, false⟩ (dk rd rb s F) := by
  obtain ⟨n, D, wr, cut, left, dead⟩ := s
  obtain ⟨h1, h2, h3, h4, h5⟩ := hs
  simp only at h1 h2 h3 h4 h5 hd
  subst hd
  refine CS.mk (fn := Try.f24) rfl rfl rfl rfl ?_
  repeat refine LS.seq ?_
  refine LS.region rfl ?_
  refine OS.pure rfl (fun _ => rfl) rfl ?_
  refine OS.pure rfl (fun _ => rfl) rfl ?_
  refine OS.nil ?_
  repeat refine LS.seq ?_
  refine LS.region rfl ?_
  refine OS.pure rfl (fun _ => rfl) rfl ?_
  refine OS.pure rfl (fun _ => rfl) rfl ?_
  refine OS.nil ?_
  refine LS.cond rfl (fun hc => by cases hc) (fun hc => ?_)
  refine LS.skip ?_
  repeat refine LS.seq ?_
  refine LS.region rfl ?_
  refine OS.pure rfl (fun _ => rfl) rfl ?_
  refine OS.pure rfl (fun _ => rfl) rfl ?_
  refine OS.pure rfl (fun _ => rfl) rfl ?_
  refine OS.read rfl (e_load 0 rfl rfl rfl rfl rfl) rfl ?_
  refine OS.pure rfl (fun _ => rfl) rfl ?_
  refine OS.nil ?_
  refine LS.cond rfl (fun hc => by cases hc) (fun hc => ?_)
  refine LS.skip ?_
  repeat refine LS.seq ?_
  refine LS.region rfl ?_
  refine OS.pure rfl (fun _ => rfl) rfl ?_
  refine OS.pure rfl (fun _ => rfl) rfl ?_
  refine OS.pure rfl (fun _ => rfl) rfl ?_
  refine OS.read rfl (e_load 0 rfl rfl rfl rfl rfl) rfl ?_
  refine OS.call noGo rfl (fun _ => rfl) ((copied_ct (List.mem_cons_of_mem _ (List.mem_cons_self ..)) h1 (by omega) h3).mono ?_)
  rintro v L' ⟨rb', rfl, rfl⟩
  refine ⟨_, rfl, ?_⟩
  refine OS.pure rfl (fun _ => rfl) rfl ?_
  refine OS.fresh rfl (e_new (fun _ => rfl) rfl) (fun _ => rfl) (fun rd' => ?_)
  refine OS.pure rfl (fun _ => rfl) rfl ?_
  refine OS.pure rfl (fun _ => rfl) rfl ?_
  refine OS.nil ?_
  refine LS.ret ⟨_, fun _ _ => rfl, ?_⟩
  exact ⟨rd', rb', rfl, rfl⟩

theorem makeT_bytes : makeT Try.prog 73 = some (5, 1, 1, [.int .u8 0]) := by kernel_rfl
theorem repL_u8 {n : Nat} : repL [Value.int .u8 0] n = byteCells (List.replicate n 0) := by
  rw [show [Value.int .u8 0] = List.replicate 1 (.int .u8 0) from rfl, repL_zeros', Nat.mul_one]
theorem full_step {i : Nat} (c : UInt8) (hi : i < 256) : lay (byteCells (List.replicate i c ++ List.replicate (256 - i) 0)) (0 + i * 1) [.int .u8 (c.toNat : Nat)] = some (byteCells (List.replicate (i + 1) c ++ List.replicate (256 - (i + 1)) 0)) := by
  rw [show [Value.int .u8 (c.toNat : Nat)] = byteCells [c] from rfl, lay_of (by rw [byteCells_len, byteCells_len]; simp; omega), byteCells_len]
  simp only [byteCells, ← List.map_take, ← List.map_drop, ← List.map_append]
  congr 2
  rw [show 0 + i * 1 = i by omega, List.take_left' (by simp), List.drop_append]
  simp [List.replicate_succ', Nat.sub_sub]

end Go.Proofs.Yteiiekfccecoiaa

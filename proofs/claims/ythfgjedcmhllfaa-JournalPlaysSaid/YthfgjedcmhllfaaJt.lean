/- Layer 4: JournalPlays: the journal's calls, alive or dead. -/
import Derived.Test.YthfgjedcmhllfaaJs
namespace Go.Proofs.Ythfgjedcmhllfaa
open Go.Am
set_option linter.unusedVariables false
set_option maxRecDepth 20000

/-- A journal's row, its disk elsewhere, ahead of a disk's. -/
abbrev jq (rj rdj rd rb : Nat) (s : Dk) (F : RL) : RL := (rj, .cells 93 [ptr rdj]) :: dk rd rb s F
/-- The journal speaks of this disk, or of one that is dead, as this one is. -/
def JS (F : RL) (rdj rd : Nat) (s : Dk) : Prop := rdj = rd ∨ (s.dead = true ∧ ∃ rb' s', s'.dead = true ∧ (rdj, dkRow rb' s') ∈ F)
theorem JS.mono {F F' : RL} {rdj rd : Nat} {s : Dk} (h : JS F rdj rd s) (hm : ∀ p, p ∈ F → p ∈ F') : JS F' rdj rd s := by
  rcases h with h | ⟨h, rb', s', h1, h2⟩
  · exact .inl h
  · exact .inr ⟨h, rb', s', h1, hm _ h2⟩
theorem JS.live {F : RL} {rdj rd : Nat} {s : Dk} (h : JS F rdj rd s) (hd : s.dead = false) : rdj = rd := by
  rcases h with h | ⟨h, _⟩
  · exact h
  · rw [hd] at h; cases h

theorem Dead_m {L : RL} {rd rb : Nat} {s : Dk} (hm : (rd, dkRow rb s) ∈ L) : CS Try.prog 17 [ptr rd] L fun v L' => v = .bool s.dead ∧ L' = L := by
  refine CS.mk (fn := Try.f17) rfl rfl rfl rfl ?_
  repeat refine LS.seq ?_
  refine LS.region rfl ?_
  refine OS.pure rfl (fun _ => rfl) rfl ?_
  refine OS.nil ?_
  repeat refine LS.seq ?_
  refine LS.region rfl ?_
  refine OS.pure rfl (fun _ => rfl) rfl ?_
  refine OS.pure rfl (fun _ => rfl) rfl ?_
  refine OS.pure rfl (fun _ => rfl) rfl ?_
  refine OS.pure rfl (fun _ => rfl) rfl ?_
  refine OS.pure rfl (fun _ => rfl) rfl ?_
  refine OS.pure rfl (fun _ => rfl) rfl ?_
  refine OS.read rfl (e_loadm hm rfl rfl rfl rfl) rfl ?_
  refine OS.pure rfl (fun _ => rfl) rfl ?_
  refine OS.pure rfl (fun _ => rfl) rfl ?_
  refine OS.nil ?_
  refine LS.ret ⟨_, fun _ _ => rfl, ?_⟩
  exact ⟨rfl, rfl⟩
theorem jrefusal_m {L : RL} {rj rd rb : Nat} {s : Dk} (hj : (rj, .cells 93 [ptr rd]) ∈ L) (hm : (rd, dkRow rb s) ∈ L) (hd : s.dead = true) : CS Try.prog 48 [ptr rj] L fun v L' => v = .int .i64 20 ∧ L' = L := by
  refine CS.mk (fn := Try.f48) rfl rfl rfl rfl ?_
  repeat refine LS.seq ?_
  refine LS.region rfl ?_
  refine OS.pure rfl (fun _ => rfl) rfl ?_
  refine OS.nil ?_
  repeat refine LS.seq ?_
  refine LS.region rfl ?_
  refine OS.pure rfl (fun _ => rfl) rfl ?_
  refine OS.pure rfl (fun _ => rfl) rfl ?_
  refine OS.pure rfl (fun _ => rfl) rfl ?_
  refine OS.pure rfl (fun _ => rfl) rfl ?_
  refine OS.pure rfl (fun _ => rfl) rfl ?_
  refine OS.pure rfl (fun _ => rfl) rfl ?_
  refine OS.read rfl (e_loadm hj rfl rfl rfl rfl) rfl ?_
  refine OS.pure rfl (fun _ => rfl) rfl ?_
  refine OS.pure rfl (fun _ => rfl) rfl ?_
  refine OS.nil ?_
  refine LS.cond rfl (fun hc => by cases hc) (fun hc => ?_)
  refine LS.skip ?_
  repeat refine LS.seq ?_
  refine LS.region rfl ?_
  refine OS.pure rfl (fun _ => rfl) rfl ?_
  refine OS.pure rfl (fun _ => rfl) rfl ?_
  refine OS.pure rfl (fun _ => rfl) rfl ?_
  refine OS.read rfl (e_loadm hj rfl rfl rfl rfl) rfl ?_
  refine OS.call noGo rfl (fun _ => rfl) ((Dead_m hm).mono ?_)
  rintro v L' ⟨rfl, rfl⟩
  rw [hd]
  refine ⟨_, rfl, ?_⟩
  refine OS.nil ?_
  refine LS.cond rfl (fun hc => ?_) (fun hc => by cases hc)
  repeat refine LS.seq ?_
  refine LS.region rfl ?_
  refine OS.pure rfl (fun _ => rfl) rfl ?_
  refine OS.nil ?_
  refine LS.ret ⟨_, fun _ _ => rfl, ?_⟩
  exact ⟨rfl, rfl⟩
theorem jRead_m {L : RL} {rj rd rb : Nat} {s : Dk} (hj : (rj, .cells 93 [ptr rd]) ∈ L) (hm : (rd, dkRow rb s) ∈ L) (hd : s.dead = true) (i : Value) : CS Try.prog 37 [ptr rj, i] L fun v L' => v = .tuple #[.slice none 0 0, .int .i64 20] ∧ L' = L := by
  refine CS.mk (fn := Try.f37) rfl rfl rfl rfl ?_
  repeat refine LS.seq ?_
  refine LS.region rfl ?_
  refine OS.pure rfl (fun _ => rfl) rfl ?_
  refine OS.pure rfl (fun _ => rfl) rfl ?_
  refine OS.nil ?_
  repeat refine LS.seq ?_
  refine LS.region rfl ?_
  refine OS.pure rfl (fun _ => rfl) rfl ?_
  refine OS.call noGo rfl (fun _ => rfl) ((jrefusal_m hj hm hd).mono ?_)
  rintro v L' ⟨rfl, rfl⟩
  refine ⟨_, rfl, ?_⟩
  refine OS.pure rfl (fun _ => rfl) rfl ?_
  refine OS.nil ?_
  repeat refine LS.seq ?_
  refine LS.region rfl ?_
  refine OS.pure rfl (fun _ => rfl) rfl ?_
  refine OS.pure rfl (fun _ => rfl) rfl ?_
  refine OS.nil ?_
  refine LS.cond rfl (fun hc => ?_) (fun hc => by cases hc)
  repeat refine LS.seq ?_
  refine LS.region rfl ?_
  refine OS.pure rfl (fun _ => rfl) rfl ?_
  refine OS.pure rfl (fun _ => rfl) rfl ?_
  refine OS.pure rfl (fun _ => rfl) rfl ?_
  refine OS.nil ?_
  refine LS.ret ⟨_, fun _ _ => rfl, ?_⟩
  exact ⟨rfl, rfl⟩
theorem jRaw_m {L : RL} {rj rd rb : Nat} {s : Dk} (hj : (rj, .cells 93 [ptr rd]) ∈ L) (hm : (rd, dkRow rb s) ∈ L) (hd : s.dead = true) (i b : Value) : CS Try.prog 36 [ptr rj, i, b] L fun v L' => v = .int .i64 20 ∧ L' = L := by
  refine CS.mk (fn := Try.f36) rfl rfl rfl rfl ?_
  repeat refine LS.seq ?_
  refine LS.region rfl ?_
  refine OS.pure rfl (fun _ => rfl) rfl ?_
  refine OS.nil ?_
  repeat refine LS.seq ?_
  refine LS.region rfl ?_
  refine OS.pure rfl (fun _ => rfl) rfl ?_
  refine OS.call noGo rfl (fun _ => rfl) ((jrefusal_m hj hm hd).mono ?_)
  rintro v L' ⟨rfl, rfl⟩
  refine ⟨_, rfl, ?_⟩
  refine OS.pure rfl (fun _ => rfl) rfl ?_
  refine OS.nil ?_
  repeat refine LS.seq ?_
  refine LS.region rfl ?_
  refine OS.pure rfl (fun _ => rfl) rfl ?_
  refine OS.pure rfl (fun _ => rfl) rfl ?_
  refine OS.nil ?_
  refine LS.cond rfl (fun hc => ?_) (fun hc => by cases hc)
  repeat refine LS.seq ?_
  refine LS.region rfl ?_
  refine OS.pure rfl (fun _ => rfl) rfl ?_
  refine OS.pure rfl (fun _ => rfl) rfl ?_
  refine OS.nil ?_
  refine LS.ret ⟨_, fun _ _ => rfl, ?_⟩
  exact ⟨rfl, rfl⟩
theorem jDo_m {L : RL} {rj rd rb : Nat} {s : Dk} (hj : (rj, .cells 93 [ptr rd]) ∈ L) (hm : (rd, dkRow rb s) ∈ L) (hd : s.dead = true) (l : Value) : CS Try.prog 33 [ptr rj, l] L fun v L' => v = .int .i64 20 ∧ L' = L := by
  refine CS.mk (fn := Try.f33) rfl rfl rfl rfl ?_
  repeat refine LS.seq ?_
  refine LS.region rfl ?_
  refine OS.pure rfl (fun _ => rfl) rfl ?_
  refine OS.nil ?_
  repeat refine LS.seq ?_
  refine LS.region rfl ?_
  refine OS.pure rfl (fun _ => rfl) rfl ?_
  refine OS.call noGo rfl (fun _ => rfl) ((jrefusal_m hj hm hd).mono ?_)
  rintro v L' ⟨rfl, rfl⟩
  refine ⟨_, rfl, ?_⟩
  refine OS.pure rfl (fun _ => rfl) rfl ?_
  refine OS.nil ?_
  repeat refine LS.seq ?_
  refine LS.region rfl ?_
  refine OS.pure rfl (fun _ => rfl) rfl ?_
  refine OS.pure rfl (fun _ => rfl) rfl ?_
  refine OS.nil ?_
  refine LS.cond rfl (fun hc => ?_) (fun hc => by cases hc)
  repeat refine LS.seq ?_
  refine LS.region rfl ?_
  refine OS.pure rfl (fun _ => rfl) rfl ?_
  refine OS.pure rfl (fun _ => rfl) rfl ?_
  refine OS.nil ?_
  refine LS.ret ⟨_, fun _ _ => rfl, ?_⟩
  exact ⟨rfl, rfl⟩

section
variable {F : RL} {rj rdj rd rb : Nat} {s : Dk}
theorem JS.row (hj : JS F rdj rd s) (hd : s.dead = true) : ∃ rb' s', s'.dead = true ∧ (rdj, dkRow rb' s') ∈ jq rj rdj rd rb s F := by
  rcases hj with rfl | ⟨_, rb', s', h1, h2⟩
  · exact ⟨rb, s, hd, List.mem_cons_of_mem _ (List.mem_cons_self ..)⟩
  · exact ⟨rb', s', h1, List.mem_cons_of_mem _ (List.mem_cons_of_mem _ (List.mem_cons_of_mem _ h2))⟩
theorem jDo_any {l : Value} {n : Nat} {gs : List Gw} (hj : JS F rdj rd s) (hs : s.ok) (hw : s.wr ≤ 800000) (hl : SV 2 F l n (gcells gs)) (hr : Reads F gs) :
    CS Try.prog 33 [ptr rj, l] (jq rj rdj rd rb s F) fun v L' => v = .int .i64 (doD s (bd gs)).1 ∧ L' = jq rj rdj rd rb (doD s (bd gs)).2 F := by
  cases hd : s.dead with
  | false =>
    have := hj.live hd
    subst this
    exact jDo_ct hs hw hl hr
  | true =>
    obtain ⟨rb', s', h1, h2⟩ := hj.row (rj := rj) (rb := rb) hd
    rw [doD_dead hd]
    exact jDo_m (List.mem_cons_self ..) h2 h1 l
theorem jRaw_any {b : Value} {m : Nat} {bs : List UInt8} (hj : JS F rdj rd s) (hs : s.ok) (i : Int) (hb : SV 1 F b m (byteCells bs)) :
    CS Try.prog 36 [ptr rj, .int .i64 i, b] (jq rj rdj rd rb s F) fun v L' => v = .int .i64 (rawD s i bs).1 ∧ L' = jq rj rdj rd rb (rawD s i bs).2 F := by
  cases hd : s.dead with
  | false =>
    have := hj.live hd
    subst this
    exact jRaw_ct hs i hb
  | true =>
    obtain ⟨rb', s', h1, h2⟩ := hj.row (rj := rj) (rb := rb) hd
    rw [show rawD s i bs = (20, s) by unfold rawD; rw [if_pos hd]]
    exact jRaw_m (List.mem_cons_self ..) h2 h1 _ _
theorem jDead_q : CS Try.prog 17 [ptr rd] (jq rj rdj rd rb s F) fun v L' => v = .bool s.dead ∧ L' = jq rj rdj rd rb s F := Dead_m (List.mem_cons_of_mem _ (List.mem_cons_self ..))
theorem jWrites_q : CS Try.prog 18 [ptr rd] (jq rj rdj rd rb s F) fun v L' => v = .int .i64 (s.wr : Nat) ∧ L' = jq rj rdj rd rb s F := by
  have hp : Sub (dk rd rb s ((rj, .cells 93 [ptr rdj]) :: F)) (jq rj rdj rd rb s F) := Sub.pulls [2, 2] rfl
  have hq : Sub (jq rj rdj rd rb s F) (dk rd rb s ((rj, .cells 93 [ptr rdj]) :: F)) := Sub.pulls [2] rfl
  exact (CS.sub hp Writes_ct).less fun v L' h => ⟨_, by rw [h.2]; exact hq, h.1, rfl⟩
theorem jCut_q (hd : s.dead = false) (m : Nat) (hm : m ≤ 9223372036854775807) : CS Try.prog 16 [ptr rd, .int .i64 (m : Nat)] (jq rj rdj rd rb s F) fun v L' => v = .int .i64 0 ∧ L' = jq rj rdj rd rb ⟨s.n, s.D, s.wr, true, m, s.dead⟩ F := by
  have hp : Sub (dk rd rb s ((rj, .cells 93 [ptr rdj]) :: F)) (jq rj rdj rd rb s F) := Sub.pulls [2, 2] rfl
  have hq : Sub (jq rj rdj rd rb ⟨s.n, s.D, s.wr, true, m, s.dead⟩ F) (dk rd rb ⟨s.n, s.D, s.wr, true, m, s.dead⟩ ((rj, .cells 93 [ptr rdj]) :: F)) := Sub.pulls [2] rfl
  exact (CS.sub hp (Cut_ct hd m hm)).less fun v L' h => ⟨_, by rw [h.2]; exact hq, h.1, rfl⟩
end
end Go.Proofs.Ythfgjedcmhllfaa

/- Layer 11: the texts of a condition; Eval, Words, Texts, Value. -/
import Derived.Test.YtdacddkelagdnaaEh
namespace Go.Proofs.Ytdacddkelagdnaa
open Go.Am
set_option linter.unusedVariables false
set_option maxRecDepth 20000
set_option maxHeartbeats 4000000
attribute [local irreducible] OS LSr ODS CS

/-- A list of texts in a row of its own. -/
abbrev GT (F : RL) (v : Value) (T : List W) (L : RL) : Prop := GV 9 1 F v T.length (strs T) L
theorem GT.to {F L : RL} {v : Value} {T T' : List W} (g : GT F v T L) (e : T = T') : GT F v T' L := e ▸ g
theorem addTexts_ct (N : Nat) (hN0 : N ≤ 1000000000) : ∀ (m : Md) (x : X) (F L : RL) (to v : Value) (T : List W), sz x ≤ N → T.length + (tx m x).length ≤ 1000000 → Hin F m v x → GT F to T L → CS Try.prog 25 [to, v] L fun u L' => GT F u (T ++ tx m x) L' := by
  induction N with
  | zero => intro m x F L to v T h; have := sz_pos x; omega
  | succ N ih =>
  have ih := ih (by omega)
  intro m x F L to v T hN hT hin hg
  match m, x, v, hin with
  | .t, .cmp l o r, v, hin =>
    obtain rfl : v = .iface 66 (cmpV l o r) := (List.cons.inj hin).1
    simp [tx] at hT
    refine CS.mk (fn := Try.f25) rfl rfl rfl rfl ?_
    refine yG ?_
    refine OS.fresh rfl (e_new (fun _ => rfl) rfl) (fun _ => rfl) (fun r12 => ?_)
    refine yG ?_
    refine OS.fresh rfl (e_new (fun _ => rfl) rfl) (fun _ => rfl) (fun rb => ?_)
    refine OS.fresh rfl (e_appendGV ((rb, .cells 9 [str l, str r]) :: (r12, .cells 66 [str l, .int .i64 (o : Nat), str r]) :: []) (sz := 1) (bts := 16) (m := 2) (new := [str l, str r]) hg (SV.row (List.mem_cons_self ..) rfl) (by decide) rfl rfl rfl rfl (by omega) (by omega)) (fun _ => rfl) (fun r2 => ?_)
    refine OS.sub (Sub.drop 1 rfl) ?_
    refine OS.sub (Sub.drop 1 rfl) ?_
    refine yG ?_
    have hl : (strs T ++ [str l, str r]).length = (T.length + 2) * 1 := by simp [strs_len]
    have := GV.of (e := 9) (r := r2) (F := F) hl
    show GV _ 1 F _ (T ++ [l, r]).length (strs (T ++ [l, r])) _
    rw [strs_app, List.length_append]
    exact this
  | .t, .neg x, v, ⟨d, y, he, hr⟩ =>
    obtain rfl : v = .iface 63 (.agg #[.iface d y]) := (List.cons.inj he).1
    have hi := ih .t x F L to (.iface d y) T (by simp [sz] at hN; omega) hT hr hg
    refine CS.mk (fn := Try.f25) rfl rfl rfl rfl ?_
    refine yG ?_
    refine OS.fresh rfl (e_new (fun _ => rfl) rfl) (fun _ => rfl) (fun r9 => ?_)
    refine yG ?_
    refine OS.sub (Sub.drop 0 rfl) ?_
    refine OS.call noGo rfl (fun _ => rfl) ((hi).mono ?_)
    rintro u L' hg'
    refine yG ?_
    exact hg'
  | .t, .par c, v, ⟨A, n, cp, ts, he, hs, hr⟩ =>
    obtain rfl : v = .iface 48 (.slice A n cp) := (List.cons.inj he).1
    exact ih .c c F L to _ T (by simp [sz] at hN; omega) hT ⟨A, n, cp, ts, rfl, hs, hr⟩ hg
  | .c, x, _, ⟨A, n, cp, ts, rfl, hs, hr⟩ =>
    have hlen := hs.len
    have hrl := hr.len
    refine CS.mk (fn := Try.f25) rfl rfl rfl rfl ?_
    refine yG ?_
    refine LS.loopJ [0, 17, 18, 19] (fun q a L' => ∃ (k : Nat) (c' : X) (to' : Value) (T' : List W), q = n - k ∧ k ≤ n ∧ Rep F .c c' (ts.drop k) ∧ sz c' ≤ N + 1 ∧ T ++ tx .c x = T' ++ tx .c c' ∧ GT F to' T' L' ∧ a = [to', .chan none, .chan none, .chan none, .chan none, .chan none, .chan none, .chan none, .chan none, .chan none, .chan none, .chan none, .chan none, .chan none, .chan none, .chan none, .chan none, .slice A n cp, .int .i64 (n : Nat), .int .i64 (k : Nat), .chan none, .chan none, .chan none, .chan none, .chan none, .chan none, .chan none, .chan none, .chan none, .chan none, .chan none, .chan none, .chan none, .chan none, .chan none, .chan none, .chan none, .chan none, .chan none, .chan none, .chan none, .chan none, .chan none, .chan none, .chan none, .chan none, .chan none, .chan none, .chan none, .chan none, .chan none, .chan none, .chan none, .chan none, .chan none, .chan none, .chan none, .chan none, .chan none]) (n := n) rfl ⟨0, x, to, T, rfl, by omega, by simpa using hr, hN, rfl, hg, rfl⟩ ?_
    rintro q a L' ⟨k, c', to', T', rfl, hk, hrep, hsz, hev, hg', rfl⟩
    have hTl := congrArg List.length hev
    simp only [List.length_append] at hTl
    refine yG ?_
    repeat refine LS.seq ?_
    refine LS.cond rfl (fun hc => ?_) (fun hc => ?_)
    · have hc := lt_of hc
      have hne := drop_some hlen (k := k) (by omega)
      match c', hrep with
      | .nil, h => exact absurd h hne
      | .cons p c', ⟨A', n', cp', us, ds, hd, hs', hp, hc'⟩ =>
      obtain ⟨hg2, hd'⟩ := drop_get hd
      have hi := ih .p p F L' to' (.iface 61 (.slice A' n' cp')) T' (by have := sz_pos c'; simp [sz] at hsz; omega) (by simp [tx] at hTl; omega) ⟨A', n', cp', us, rfl, hs', hp⟩ hg'
      refine LS.skip ?_
      repeat refine LS.seq ?_
      refine LS.block ?_
      refine yG ?_
      refine OS.at1 (j := k) (hs.mono hg'.mem) (hg2) rfl rfl rfl rfl rfl rfl (fun ra0 oa0 rowa0 csa0 ma0 ca0 ga0 => ⟨_, rfl, ?_⟩)
      refine OS.read rfl (e_loadm ma0 ca0 rfl rfl (part_one rfl ga0)) rfl ?_
      refine yG ?_
      refine OS.call noGo rfl (fun _ => rfl) ((hi).mono ?_)
      rintro u L' hg3
      refine yG ?_
      exact ⟨n - (k + 1), by omega, k + 1, c', u, T' ++ tx .p p, rfl, by omega, by rw [hd']; exact hc', by simp [sz] at hsz; omega, by rw [hev, tx, List.append_assoc], hg3, rfl⟩
    · have hc := nlt_of hc
      have hnil := drop_nil hlen (k := k) (by omega)
      rw [hnil] at hrep
      refine LS.exit ?_
      refine yG ?_
      match c', hrep with
      | .nil, _ => exact hg'.to (hev.trans (List.append_nil T')).symm
      | .cons p c', ⟨_, _, _, _, _, h, _⟩ => cases h
  | .p, x, _, ⟨A, n, cp, ts, rfl, hs, hr⟩ =>
    have hlen := hs.len
    have hrl := hr.len
    refine CS.mk (fn := Try.f25) rfl rfl rfl rfl ?_
    refine yG ?_
    refine LS.loopJ [0, 31, 32, 33] (fun q a L' => ∃ (k : Nat) (c' : X) (to' : Value) (T' : List W), q = n - k ∧ k ≤ n ∧ Rep F .p c' (ts.drop k) ∧ sz c' ≤ N + 1 ∧ T ++ tx .p x = T' ++ tx .p c' ∧ GT F to' T' L' ∧ a = [to', .chan none, .chan none, .chan none, .chan none, .chan none, .chan none, .chan none, .chan none, .chan none, .chan none, .chan none, .chan none, .chan none, .chan none, .chan none, .chan none, .chan none, .chan none, .chan none, .chan none, .chan none, .chan none, .chan none, .chan none, .chan none, .chan none, .chan none, .chan none, .chan none, .chan none, .slice A n cp, .int .i64 (n : Nat), .int .i64 (k : Nat), .chan none, .chan none, .chan none, .chan none, .chan none, .chan none, .chan none, .chan none, .chan none, .chan none, .chan none, .chan none, .chan none, .chan none, .chan none, .chan none, .chan none, .chan none, .chan none, .chan none, .chan none, .chan none, .chan none, .chan none, .chan none]) (n := n) rfl ⟨0, x, to, T, rfl, by omega, by simpa using hr, hN, rfl, hg, rfl⟩ ?_
    rintro q a L' ⟨k, c', to', T', rfl, hk, hrep, hsz, hev, hg', rfl⟩
    have hTl := congrArg List.length hev
    simp only [List.length_append] at hTl
    refine yG ?_
    repeat refine LS.seq ?_
    refine LS.cond rfl (fun hc => ?_) (fun hc => ?_)
    · have hc := lt_of hc
      have hne := drop_some hlen (k := k) (by omega)
      match c', hrep with
      | .nil, h => exact absurd h hne
      | .cons p c', ⟨d, y, ds, hd, hp, hc'⟩ =>
      obtain ⟨hg2, hd'⟩ := drop_get hd
      have hi := ih .t p F L' to' (.iface d y) T' (by have := sz_pos c'; simp [sz] at hsz; omega) (by simp [tx] at hTl; omega) hp hg'
      refine LS.skip ?_
      repeat refine LS.seq ?_
      refine LS.block ?_
      refine yG ?_
      refine OS.at1 (j := k) (hs.mono hg'.mem) (hg2) rfl rfl rfl rfl rfl rfl (fun ra0 oa0 rowa0 csa0 ma0 ca0 ga0 => ⟨_, rfl, ?_⟩)
      refine OS.read rfl (e_loadm ma0 ca0 rfl rfl (part_one rfl ga0)) rfl ?_
      refine yG ?_
      refine OS.call noGo rfl (fun _ => rfl) ((hi).mono ?_)
      rintro u L' hg3
      refine yG ?_
      exact ⟨n - (k + 1), by omega, k + 1, c', u, T' ++ tx .t p, rfl, by omega, by rw [hd']; exact hc', by simp [sz] at hsz; omega, by rw [hev, tx, List.append_assoc], hg3, rfl⟩
    · have hc := nlt_of hc
      have hnil := drop_nil hlen (k := k) (by omega)
      rw [hnil] at hrep
      refine LS.exit ?_
      refine yG ?_
      match c', hrep with
      | .nil, _ => exact hg'.to (hev.trans (List.append_nil T')).symm
      | .cons p c', ⟨_, _, _, h, _⟩ => cases h
  | .t, .nil, _, h => exact h.elim
  | .t, .cons _ _, _, h => exact h.elim
theorem Eval_ct {L : RL} {v : Value} {w : List W} {x : X} (h : XV L v w x) (hz : sz x ≤ 1000000000) (hsm : Sm .c x) : CS Try.prog 11 [v] L fun u L' => u = .bool (ev .c x) ∧ L' = L := by
  obtain ⟨rx, ws, u, A, n, cp, ts, rfl, hm, hw, rfl, hs, hr⟩ := h
  refine CS.mk (fn := Try.f11) rfl rfl rfl rfl ?_
  refine yG ?_
  refine OS.read rfl (e_loadm hm rfl rfl rfl (part_one rfl rfl)) rfl ?_
  refine yG ?_
  refine OS.call noGo rfl (fun _ => rfl) ((holds_ct _ hz .c x L _ (Nat.le_refl _) hsm ⟨A, n, cp, ts, rfl, hs, hr⟩).mono ?_)
  rintro v L' ⟨rfl, rfl⟩
  refine yG ?_
  exact ⟨rfl, rfl⟩
theorem Words_ct {L : RL} {v : Value} {w : List W} {x : X} (h : XV L v w x) (hw : w.length ≤ 1000000) : CS Try.prog 12 [v] L fun u L' => GT L u w L' := by
  obtain ⟨rx, ws, u, A, n, cp, ts, rfl, hm, hs, rfl, _, _⟩ := h
  refine CS.mk (fn := Try.f12) rfl rfl rfl rfl ?_
  refine yG ?_
  refine OS.read rfl (e_loadm hm rfl rfl rfl (part_one rfl rfl)) rfl ?_
  refine yG ?_
  refine OS.call noGo rfl (fun _ => rfl) ((CloneS_ct hs (strs_one w) hw).mono ?_)
  rintro v L' hg
  refine yG ?_
  exact hg
theorem Texts_ct {L : RL} {v : Value} {w : List W} {x : X} (h : XV L v w x) (hz : sz x ≤ 1000000000) (ht : (tx .c x).length ≤ 1000000) : CS Try.prog 13 [v] L fun u L' => GT L u (tx .c x) L' := by
  obtain ⟨rx, ws, u, A, n, cp, ts, rfl, hm, hw, rfl, hs, hr⟩ := h
  refine CS.mk (fn := Try.f13) rfl rfl rfl rfl ?_
  refine yG ?_
  refine OS.read rfl (e_loadm hm rfl rfl rfl (part_one rfl rfl)) rfl ?_
  refine yG ?_
  refine OS.call noGo rfl (fun _ => rfl) ((addTexts_ct _ hz .c x L L (.slice none 0 0) _ [] (Nat.le_refl _) (by simpa using ht) ⟨A, n, cp, ts, rfl, hs, hr⟩ .nil).mono ?_)
  rintro v L' hg
  refine yG ?_
  exact hg
theorem nilEval_ct {L : RL} : CS Try.prog 11 [.pointer none] L fun u L' => u = .bool false ∧ L' = L := by
  refine CS.mk (fn := Try.f11) rfl rfl rfl rfl ?_
  refine yG ?_
  exact ⟨rfl, rfl⟩
/-- How large what was parsed is. -/
def Md.a : Md → Nat
  | .t => 4
  | .p => 2
  | .c => 0
theorem Sd.sz {m : Md} {w : List W} {x : X} {r : List W} (h : Sd m w x r) : Go.Proofs.Ytdacddkelagdnaa.sz x + m.a + 5 * r.length ≤ 5 * w.length := by
  induction h with
  | cmp h => simp [Go.Proofs.Ytdacddkelagdnaa.sz, Md.a]; omega
  | neg h k ih => simp [Go.Proofs.Ytdacddkelagdnaa.sz, Md.a] at ih ⊢; omega
  | par h k ih => simp [Go.Proofs.Ytdacddkelagdnaa.sz, Md.a] at ih ⊢; omega
  | p1 k h ih => simp [Go.Proofs.Ytdacddkelagdnaa.sz, Md.a] at ih ⊢; omega
  | p2 k k' ih ih' => simp [Go.Proofs.Ytdacddkelagdnaa.sz, Md.a] at ih ih' ⊢; omega
  | c1 k h ih => simp [Go.Proofs.Ytdacddkelagdnaa.sz, Md.a] at ih ⊢; omega
  | c2 k k' ih ih' => simp [Go.Proofs.Ytdacddkelagdnaa.sz, Md.a] at ih ih' ⊢; omega
theorem Sd.len {m : Md} {w : List W} {x : X} {r : List W} (h : Sd m w x r) : (tx m x).length + r.length ≤ w.length := by
  induction h with
  | cmp h => simp [tx]; omega
  | neg h k ih => simp [tx] at ih ⊢; omega
  | par h k ih => simp [tx] at ih ⊢; omega
  | p1 k h ih => simp [tx] at ih ⊢; omega
  | p2 k k' ih ih' => simp [tx] at ih ih' ⊢; omega
  | c1 k h ih => simp [tx] at ih ⊢; omega
  | c2 k k' ih ih' => simp [tx] at ih ih' ⊢; omega
theorem Sd.mem {m : Md} {w : List W} {x : X} {r : List W} (h : Sd m w x r) : (∀ t ∈ tx m x, t ∈ w) ∧ ∀ t ∈ r, t ∈ w := by
  induction h with
  | cmp h => exact ⟨fun t ht => by simp [tx] at ht; rcases ht with rfl | rfl <;> simp, fun t ht => by simp [ht]⟩
  | neg h k ih => exact ⟨fun t ht => List.mem_cons_of_mem _ (ih.1 t ht), fun t ht => List.mem_cons_of_mem _ (ih.2 t ht)⟩
  | par h k ih => exact ⟨fun t ht => List.mem_cons_of_mem _ (ih.1 t ht), fun t ht => List.mem_cons_of_mem _ (ih.2 t (List.mem_cons_of_mem _ ht))⟩
  | p1 k h ih => exact ⟨fun t ht => ih.1 t (by simpa [tx] using ht), ih.2⟩
  | p2 k k' ih ih' => exact ⟨fun t ht => by
      simp [tx] at ht
      rcases ht with ht | ht
      · exact ih.1 t ht
      · exact ih.2 t (List.mem_cons_of_mem _ (ih'.1 t ht)), fun t ht => ih.2 t (List.mem_cons_of_mem _ (ih'.2 t ht))⟩
  | c1 k h ih => exact ⟨fun t ht => ih.1 t (by simpa [tx] using ht), ih.2⟩
  | c2 k k' ih ih' => exact ⟨fun t ht => by
      simp [tx] at ht
      rcases ht with ht | ht
      · exact ih.1 t ht
      · exact ih.2 t (List.mem_cons_of_mem _ (ih'.1 t ht)), fun t ht => ih.2 t (List.mem_cons_of_mem _ (ih'.2 t ht))⟩
/-- Words that a statement goes through. -/
def Fit (w : List W) : Prop := w.length ≤ 100000 ∧ ∀ t ∈ w, t.length ≤ 1000000
theorem parse_fit {w r : List W} {x : X} (h : parse w = .ok x r) (hf : Fit w) : Go.Proofs.Ytdacddkelagdnaa.sz x ≤ 1000000000 ∧ (tx .c x).length ≤ 1000000 ∧ Sm .c x := by
  have h := parse_sd h
  have h1 := h.sz
  have h2 := h.len
  have h3 := hf.1
  exact ⟨by simp [Md.a] at h1; omega, by simp at h2; omega, fun t ht => hf.2 t (h.mem.1 t ht)⟩
/-- What Value tells. -/
def valB : Rs → Bool
  | .err _ => false
  | .ok x _ => ev .c x
def errN : Rs → Nat
  | .err e => e
  | .ok _ _ => 0
theorem Value_ct {s : Value} {w : List W} {F : RL} (hs : Wd F s w) (hf : Fit w) : CS Try.prog 8 [s] F fun v L' => v = .tuple #[.bool (valB (parse w)), .int .i64 (errN (parse w) : Nat)] ∧ L' = F := by
  have hp := Parse_ct hs (Nat.le_trans hf.1 (by decide))
  have hfit := fun x r h => parse_fit (x := x) (r := r) (w := w) h hf
  generalize parse w = res at hp hfit ⊢
  suffices hh : CS Try.prog 8 [s] F fun v L' => v = .tuple #[.bool (valB res), .int .i64 (errN res : Nat)] ∧ ∃ Y, L' = Y ++ F from
    hh.less fun v L' ⟨h1, Y, h2⟩ => ⟨F, by rw [h2]; exact ⟨Y, List.perm_append_comm⟩, h1, rfl⟩
  refine CS.mk (fn := Try.f8) rfl rfl rfl rfl ?_
  refine yG ?_
  refine OS.call noGo rfl (fun _ => rfl) ((hp).mono ?_)
  cases res with
  | err e =>
    rintro v L' ⟨rfl, he, hL⟩
    rw [hL]
    clear hL
    refine yG ?_
    refine OS.call noGo rfl (fun _ => rfl) ((nilEval_ct).mono ?_)
    rintro v L' ⟨rfl, hL⟩
    rw [hL]
    clear hL
    refine yG ?_
    exact ⟨rfl, [], rfl⟩
  | ok x r =>
    rintro v L' ⟨u, Y, rfl, rfl, hx⟩
    obtain ⟨h1, h2, h3⟩ := hfit x r rfl
    refine yG ?_
    refine OS.call noGo rfl (fun _ => rfl) ((Eval_ct (hx.mono fun p hp => List.mem_append_left _ hp) h1 h3).mono ?_)
    rintro v L' ⟨rfl, rfl⟩
    refine yG ?_
    exact ⟨rfl, Y, rfl⟩
end Go.Proofs.Ytdacddkelagdnaa

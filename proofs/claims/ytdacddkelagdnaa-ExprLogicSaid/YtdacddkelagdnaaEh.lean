/- Layer 11: whether a condition holds. -/
import Derived.Test.YtdacddkelagdnaaEg
namespace Go.Proofs.Ytdacddkelagdnaa
open Go.Am
set_option linter.unusedVariables false
set_option maxRecDepth 20000
set_option maxHeartbeats 4000000
attribute [local irreducible] OS LSr ODS CS

/-- How large a tree is. -/
def sz : X → Nat
  | .cmp _ _ _ => 1
  | .neg x => sz x + 1
  | .par c => sz c + 1
  | .nil => 1
  | .cons h t => sz h + sz t + 1
theorem sz_pos : ∀ x, 1 ≤ sz x
  | .cmp _ _ _ => Nat.le_refl _
  | .neg x => by unfold sz; omega
  | .par c => by unfold sz; omega
  | .nil => Nat.le_refl _
  | .cons h t => by unfold sz; omega
theorem Rep.len {L : RL} : ∀ {m : Md} {x : X} {cs : List Value}, Rep L m x cs → cs.length ≤ sz x
  | .t, .cmp l o r, cs, h => by have : cs = _ := h; subst this; simp [sz]
  | .t, .neg x, cs, ⟨d, y, h1, h2⟩ => by subst h1; simp [sz]
  | .t, .par c, cs, ⟨A, n, cp, ts, h1, h2, h3⟩ => by subst h1; simp [sz]
  | .p, .nil, cs, h => by have : cs = _ := h; subst this; simp
  | .p, .cons t p, cs, ⟨d, y, ds, h1, h2, h3⟩ => by have := h3.len; subst h1; simp [sz]; omega
  | .c, .nil, cs, h => by have : cs = _ := h; subst this; simp
  | .c, .cons p c, cs, ⟨A, n, cp, ts, ds, h1, h2, h3, h4⟩ => by have := h4.len; subst h1; simp [sz]; omega
  | .p, .cmp _ _ _, _, h => h.elim
  | .p, .neg _, _, h => h.elim
  | .p, .par _, _, h => h.elim
  | .c, .cmp _ _ _, _, h => h.elim
  | .c, .neg _, _, h => h.elim
  | .c, .par _, _, h => h.elim
  | .t, .nil, _, h => h.elim
  | .t, .cons _ _, _, h => h.elim
/-- No text is too long for a walk. -/
def Sm (m : Md) (x : X) : Prop := ∀ t ∈ tx m x, t.length ≤ 1000000
/-- As what a tree is handed in. -/
def Hin (L : RL) : Md → Value → X → Prop
  | .t, v, x => Rep L .t x [v]
  | .p, v, x => ∃ A n cp ts, v = .iface 61 (.slice A n cp) ∧ SV 1 L (.slice A n cp) n ts ∧ Rep L .p x ts
  | .c, v, x => ∃ A n cp ts, v = .iface 48 (.slice A n cp) ∧ SV 1 L (.slice A n cp) n ts ∧ Rep L .c x ts
theorem cmpHolds_ct {L : RL} {l r : W} {o : Nat} (hl : l.length ≤ 1000000) : CS Try.prog 28 [cmpV l o r] L fun v L' => v = .bool (holdB l o r) ∧ L' = L := by
  suffices hh : CS Try.prog 28 [cmpV l o r] L fun v L' => v = .bool (holdB l o r) ∧ ∃ x, L' = x :: L from
    hh.less fun v L' ⟨h1, x, h2⟩ => ⟨L, by rw [h2]; exact Sub.tail, h1, rfl⟩
  refine CS.mk (fn := Try.f28) rfl rfl rfl rfl ?_
  by_cases h1 : o = 1
  · subst h1
    have hb : bytesEq l r = decide (l = r) := beq_bytes l r
    repeat refine LS.seq ?_
    refine LS.region rfl ?_
    refine OS.fresh rfl (e_new (fun _ => rfl) rfl) (fun _ => rfl) (fun r1 => ?_)
    refine yG ?_
    exact ⟨rfl, _, rfl⟩
  by_cases h2 : o = 2
  · subst h2
    have hb : (!bytesEq l r) = !decide (l = r) := by rw [beq_bytes]
    repeat refine LS.seq ?_
    refine LS.region rfl ?_
    refine OS.fresh rfl (e_new (fun _ => rfl) rfl) (fun _ => rfl) (fun r1 => ?_)
    refine yG ?_
    exact ⟨rfl, _, rfl⟩
  by_cases h3 : o = 3
  · subst h3
    repeat refine LS.seq ?_
    refine LS.region rfl ?_
    refine OS.fresh rfl (e_new (fun _ => rfl) rfl) (fun _ => rfl) (fun r1 => ?_)
    refine yG ?_
    refine OS.call noGo rfl (fun _ => rfl) ((Match_ct r l hl).mono ?_)
    rintro v L' ⟨rfl, rfl⟩
    refine yG ?_
    exact ⟨rfl, _, rfl⟩
  have b1 : ieqB ((o : Nat) : Int) 1 = false := by rw [ieqB_eq]; simp; omega
  have b2 : ieqB ((o : Nat) : Int) 2 = false := by rw [ieqB_eq]; simp; omega
  have b3 : ieqB ((o : Nat) : Int) 3 = false := by rw [ieqB_eq]; simp; omega
  repeat refine LS.seq ?_
  refine LS.region rfl ?_
  refine OS.fresh rfl (e_new (fun _ => rfl) rfl) (fun _ => rfl) (fun r1 => ?_)
  refine yG ?_
  refine ⟨?_, _, rfl⟩
  unfold holdB
  rw [if_neg h1, if_neg h2, if_neg h3]; rfl
theorem drop_get {cs ds : List Value} {k : Nat} {u : Value} (h : cs.drop k = u :: ds) : cs[k]? = some u ∧ cs.drop (k + 1) = ds := by
  constructor
  · have : (cs.drop k)[0]? = some u := by rw [h]; rfl
    rw [List.getElem?_drop] at this
    simpa using this
  · rw [← List.drop_drop, h]; rfl
theorem drop_nil {cs : List Value} {k n : Nat} (hn : cs.length = n * 1) (h : n ≤ k) : cs.drop k = [] := List.drop_eq_nil_of_le (by omega)
theorem drop_some {cs : List Value} {k n : Nat} (hn : cs.length = n * 1) (h : k < n) : cs.drop k ≠ [] := by
  intro h2
  have := congrArg List.length h2
  rw [List.length_drop] at this
  simp at this; omega
/-- What is handed on by a loop. -/
theorem holds_ct (N : Nat) (hN0 : N ≤ 1000000000) : ∀ (m : Md) (x : X) (L : RL) (v : Value), sz x ≤ N → Sm m x → Hin L m v x → CS Try.prog 23 [v] L fun u L' => u = .bool (ev m x) ∧ L' = L := by
  induction N with
  | zero => intro m x L v h; have := sz_pos x; omega
  | succ N ih =>
  have ih := ih (by omega)
  intro m x L v hN hsm hin
  match m, x, v, hin with
  | .t, .cmp l o r, v, hin =>
    have hl : l.length ≤ 1000000 := hsm l (by simp [tx])
    obtain rfl : v = .iface 66 (cmpV l o r) := (List.cons.inj hin).1
    refine CS.mk (fn := Try.f23) rfl rfl rfl rfl ?_
    refine yG ?_
    refine OS.fresh rfl (e_new (fun _ => rfl) rfl) (fun _ => rfl) (fun r10 => ?_)
    refine yG ?_
    refine OS.sub (Sub.drop 0 rfl) ?_
    refine OS.call noGo rfl (fun _ => rfl) ((cmpHolds_ct (o := o) (r := r) hl).mono ?_)
    rintro u L' ⟨rfl, rfl⟩
    refine yG ?_
    exact ⟨rfl, rfl⟩
  | .t, .neg x, v, ⟨d, y, he, hr⟩ =>
    obtain rfl : v = .iface 63 (.agg #[.iface d y]) := (List.cons.inj he).1
    have hi := ih .t x L (.iface d y) (by simp [sz] at hN; omega) (fun t ht => hsm t ht) hr
    refine CS.mk (fn := Try.f23) rfl rfl rfl rfl ?_
    refine yG ?_
    refine OS.fresh rfl (e_new (fun _ => rfl) rfl) (fun _ => rfl) (fun r9 => ?_)
    refine yG ?_
    refine OS.sub (Sub.drop 0 rfl) ?_
    refine OS.call noGo rfl (fun _ => rfl) ((hi).mono ?_)
    rintro u L' ⟨rfl, rfl⟩
    refine yG ?_
    exact ⟨rfl, rfl⟩
  | .t, .par c, v, ⟨A, n, cp, ts, he, hs, hr⟩ =>
    obtain rfl : v = .iface 48 (.slice A n cp) := (List.cons.inj he).1
    exact ih .c c L _ (by simp [sz] at hN; omega) (fun t ht => hsm t ht) ⟨A, n, cp, ts, rfl, hs, hr⟩
  | .c, x, _, ⟨A, n, cp, ts, rfl, hs, hr⟩ =>
    have hlen := hs.len
    have hrl := hr.len
    refine CS.mk (fn := Try.f23) rfl rfl rfl rfl ?_
    refine yG ?_
    refine LS.loopJ [15, 16, 17] (fun q a L' => ∃ (k : Nat) (c' : X), q = n - k ∧ k ≤ n ∧ Rep L .c c' (ts.drop k) ∧ sz c' ≤ N + 1 ∧ Sm .c c' ∧ ev .c x = ev .c c' ∧ L' = L ∧ a = [.chan none, .chan none, .chan none, .chan none, .chan none, .chan none, .chan none, .chan none, .chan none, .chan none, .chan none, .chan none, .chan none, .chan none, .chan none, .slice A n cp, .int .i64 (n : Nat), .int .i64 (k : Nat), .chan none, .chan none, .chan none, .chan none, .chan none, .chan none, .chan none, .chan none, .chan none, .chan none, .chan none, .chan none, .chan none, .chan none, .chan none, .chan none, .chan none, .chan none, .chan none, .chan none, .chan none, .chan none, .chan none, .chan none, .chan none, .chan none, .chan none, .chan none, .chan none, .chan none, .chan none, .chan none]) (n := n) rfl ⟨0, x, rfl, by omega, by simpa using hr, hN, hsm, rfl, rfl, rfl⟩ ?_
    rintro q a L' ⟨k, c', rfl, hk, hrep, hsz, hsm', hev, hL, rfl⟩
    rw [hL]
    clear hL
    refine yG ?_
    repeat refine LS.seq ?_
    refine LS.cond rfl (fun hc => ?_) (fun hc => ?_)
    · have hc := lt_of hc
      have hne := drop_some hlen (k := k) (by omega)
      match c', hrep with
      | .nil, h => exact absurd h hne
      | .cons p c', ⟨A', n', cp', us, ds, hd, hs', hp, hc'⟩ =>
      obtain ⟨hg, hd'⟩ := drop_get hd
      have hi := ih .p p L (.iface 61 (.slice A' n' cp')) (by have := sz_pos c'; simp [sz] at hsz; omega) (fun t ht => hsm' t (by simp [tx, ht])) ⟨A', n', cp', us, rfl, hs', hp⟩
      refine LS.skip ?_
      repeat refine LS.seq ?_
      refine LS.block ?_
      refine yG ?_
      refine OS.at1 (j := k) (hs) (hg) rfl rfl rfl rfl rfl rfl (fun ra0 oa0 rowa0 csa0 ma0 ca0 ga0 => ⟨_, rfl, ?_⟩)
      refine OS.read rfl (e_loadm ma0 ca0 rfl rfl (part_one rfl ga0)) rfl ?_
      refine yG ?_
      refine OS.call noGo rfl (fun _ => rfl) ((hi).mono ?_)
      rintro u L' ⟨rfl, hL⟩
      rw [hL]
      clear hL
      rcases tf (ev .p p) with h1 | h1
      · rw [h1]
        refine yG ?_
        exact ⟨by rw [hev, ev, h1]; rfl, rfl⟩
      · rw [h1]
        refine yG ?_
        exact ⟨n - (k + 1), by omega, k + 1, c', rfl, by omega, by rw [hd']; exact hc', by simp [sz] at hsz; omega, fun t ht => hsm' t (by simp [tx, ht]), by rw [hev, ev, h1]; rfl, rfl, rfl⟩
    · have hc := nlt_of hc
      have hnil := drop_nil hlen (k := k) (by omega)
      rw [hnil] at hrep
      refine LS.exit ?_
      refine yG ?_
      match c', hrep with
      | .nil, _ => exact ⟨by rw [hev]; rfl, rfl⟩
      | .cons p c', ⟨_, _, _, _, _, h, _⟩ => cases h
  | .p, x, _, ⟨A, n, cp, ts, rfl, hs, hr⟩ =>
    have hlen := hs.len
    have hrl := hr.len
    refine CS.mk (fn := Try.f23) rfl rfl rfl rfl ?_
    refine yG ?_
    refine LS.loopJ [28, 29, 30] (fun q a L' => ∃ (k : Nat) (c' : X), q = n - k ∧ k ≤ n ∧ Rep L .p c' (ts.drop k) ∧ sz c' ≤ N + 1 ∧ Sm .p c' ∧ ev .p x = ev .p c' ∧ L' = L ∧ a = [.chan none, .chan none, .chan none, .chan none, .chan none, .chan none, .chan none, .chan none, .chan none, .chan none, .chan none, .chan none, .chan none, .chan none, .chan none, .chan none, .chan none, .chan none, .chan none, .chan none, .chan none, .chan none, .chan none, .chan none, .chan none, .chan none, .chan none, .chan none, .slice A n cp, .int .i64 (n : Nat), .int .i64 (k : Nat), .chan none, .chan none, .chan none, .chan none, .chan none, .chan none, .chan none, .chan none, .chan none, .chan none, .chan none, .chan none, .chan none, .chan none, .chan none, .chan none, .chan none, .chan none, .chan none]) (n := n) rfl ⟨0, x, rfl, by omega, by simpa using hr, hN, hsm, rfl, rfl, rfl⟩ ?_
    rintro q a L' ⟨k, c', rfl, hk, hrep, hsz, hsm', hev, hL, rfl⟩
    rw [hL]
    clear hL
    refine yG ?_
    repeat refine LS.seq ?_
    refine LS.cond rfl (fun hc => ?_) (fun hc => ?_)
    · have hc := lt_of hc
      have hne := drop_some hlen (k := k) (by omega)
      match c', hrep with
      | .nil, h => exact absurd h hne
      | .cons p c', ⟨d, y, ds, hd, hp, hc'⟩ =>
      obtain ⟨hg, hd'⟩ := drop_get hd
      have hi := ih .t p L (.iface d y) (by have := sz_pos c'; simp [sz] at hsz; omega) (fun t ht => hsm' t (by simp [tx, ht])) hp
      refine LS.skip ?_
      repeat refine LS.seq ?_
      refine LS.block ?_
      refine yG ?_
      refine OS.at1 (j := k) (hs) (hg) rfl rfl rfl rfl rfl rfl (fun ra0 oa0 rowa0 csa0 ma0 ca0 ga0 => ⟨_, rfl, ?_⟩)
      refine OS.read rfl (e_loadm ma0 ca0 rfl rfl (part_one rfl ga0)) rfl ?_
      refine yG ?_
      refine OS.call noGo rfl (fun _ => rfl) ((hi).mono ?_)
      rintro u L' ⟨rfl, hL⟩
      rw [hL]
      clear hL
      rcases tf (ev .t p) with h1 | h1
      · rw [h1]
        refine yG ?_
        exact ⟨n - (k + 1), by omega, k + 1, c', rfl, by omega, by rw [hd']; exact hc', by simp [sz] at hsz; omega, fun t ht => hsm' t (by simp [tx, ht]), by rw [hev, ev, h1]; rfl, rfl, rfl⟩
      · rw [h1]
        refine yG ?_
        exact ⟨by rw [hev, ev, h1]; rfl, rfl⟩
    · have hc := nlt_of hc
      have hnil := drop_nil hlen (k := k) (by omega)
      rw [hnil] at hrep
      refine LS.exit ?_
      refine yG ?_
      match c', hrep with
      | .nil, _ => exact ⟨by rw [hev]; rfl, rfl⟩
      | .cons p c', ⟨_, _, _, h, _⟩ => cases h
  | .t, .nil, _, h => exact h.elim
  | .t, .cons _ _, _, h => exact h.elim
end Go.Proofs.Ytdacddkelagdnaa

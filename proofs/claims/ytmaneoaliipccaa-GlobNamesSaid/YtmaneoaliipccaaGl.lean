/- Layer 10: GlobNames. -/
import Derived.Test.YtmaneoaliipccaaGk
namespace Go.Am
theorem OS.gen {P : Program} {ops rest : List Oper} {a : Slots} {L : RL} {K : Slots → RL → Prop} (k : ∀ R, R = L → OS P ops rest a R K) : OS P ops rest a L K := k L rfl
end Go.Am
namespace Go.Proofs.Ytmaneoaliipccaa
open Go.Am
set_option linter.unusedVariables false
set_option maxRecDepth 20000
set_option maxHeartbeats 4000000
attribute [local irreducible] OS LSr ODS CS

/-- The examples. -/
def tab (ln : List UInt8) : List (List UInt8 × List UInt8 × Bool) := [([115, 114, 99, 47, 42, 46, 103, 111], [115, 114, 99, 47, 97, 46, 103, 111], true), ([115, 114, 99, 47, 42, 46, 103, 111], [115, 114, 99, 47, 46, 103, 111], true), ([115, 114, 99, 47, 42, 46, 103, 111], [115, 114, 99, 47, 97, 47, 98, 46, 103, 111], false), ([115, 114, 99, 47, 42, 42, 46, 103, 111], [115, 114, 99, 47, 97, 46, 103, 111], true), ([115, 114, 99, 47, 42, 42, 46, 103, 111], [115, 114, 99, 47, 46, 103, 111], true), ([115, 114, 99, 47, 42, 42, 46, 103, 111], [115, 114, 99, 47, 97, 47, 98, 46, 103, 111], true), ([97, 63, 99], [97, 98, 99], true), ([97, 63, 99], [97, 47, 99], false), ([97, 63, 99], [97, 99], false), ([42, 42, 42], [], true), ([42, 42, 42], [97, 47, 98], true), ([42], [97, 47, 98], false), ([42], [], true), ([], [], false), (ln, [97, 47, 98, 47, 99], true), (ln ++ [42], [97], false), ([42, 42, 97], [98, 47, 97, 0], false), ([97], [97], true)]
def tri (l : List (List UInt8 × List UInt8 × Bool)) : List Value := l.flatMap fun x => [str x.1, str x.2.1, .bool x.2.2]
theorem tri_len : ∀ l, (tri l).length = l.length * 3
  | [] => rfl
  | x :: l => by
    have := tri_len l
    unfold tri at this ⊢
    rw [List.flatMap_cons, List.length_append, this, List.length_cons, List.length_cons, List.length_cons, List.length_cons, List.length_nil]; omega
theorem tri_cut : ∀ {l : List (List UInt8 × List UInt8 × Bool)} {k : Nat} {x : List UInt8 × List UInt8 × Bool}, l[k]? = some x → cut (tri l) (k * 3) 3 = some [str x.1, str x.2.1, .bool x.2.2]
  | y :: l, 0, x, h => by
    obtain rfl : y = x := by simpa using h
    rw [cut_of (by rw [tri_len]; simp; omega)]
    rfl
  | y :: l, k + 1, x, h => by
    have hx : l[k]? = some x := by simpa using h
    have hk := (List.getElem?_eq_some_iff.1 hx).1
    have ih := tri_cut hx
    rw [cut_of (by rw [tri_len]; omega)] at ih
    rw [cut_of (by rw [tri_len]; simp; omega), show (k + 1) * 3 = k * 3 + 3 by omega]
    exact ih
theorem tab_true {k : Nat} {x : List UInt8 × List UInt8 × Bool} (h : (tab (List.replicate 64 42))[k]? = some x) : mt x.1 x.2.1 = x.2.2 ∧ x.2.1.length ≤ 1000000 := by
  have hall : (tab (List.replicate 64 42)).all (fun x => (mtF x.1 x.2.1 == x.2.2) && decide (x.2.1.length ≤ 1000000)) = true := by decide +kernel
  have := List.all_eq_true.1 hall x (List.mem_of_getElem? h)
  rw [Bool.and_eq_true, beq_iff_eq, decide_eq_true_iff] at this
  rw [mt_F]; exact this
theorem namesLaw_ct {L : RL} : CS Try.prog 5 [] L fun u _ => u = .bool true := by
  have aw : ∀ L : RL, CS Try.prog 8 [] L fun v L' => v = .bool true ∧ L' = L := fun L => awake_ct
  refine CS.mk (fn := Try.f5) rfl rfl rfl rfl ?_
  refine yG ?_
  refine LS.loopJ [1, 2] (fun q a L' => ∃ k : Nat, q = 64 - k ∧ k ≤ 64 ∧ L' = L ∧ a = [.chan none, str (List.replicate k 42), .int .i64 (k : Nat), .chan none, .chan none, .chan none, .chan none, .chan none, .chan none, .chan none, .chan none, .chan none, .chan none, .chan none, .chan none, .chan none, .chan none, .chan none, .chan none, .chan none, .chan none, .chan none, .chan none, .chan none, .chan none, .chan none, .chan none, .chan none, .chan none, .chan none, .chan none, .chan none, .chan none, .chan none, .chan none, .chan none, .chan none, .chan none, .chan none, .chan none, .chan none, .chan none, .chan none, .chan none, .chan none, .chan none, .chan none, .chan none, .chan none, .chan none, .chan none, .chan none, .chan none, .chan none, .chan none, .chan none, .chan none, .chan none, .chan none, .chan none, .chan none, .chan none, .chan none, .chan none, .chan none, .chan none, .chan none, .chan none, .chan none]) (n := 64) rfl ⟨0, rfl, by omega, rfl, rfl⟩ ?_
  rintro q a L' ⟨k, rfl, hk, hL, rfl⟩
  rw [hL]
  clear hL
  refine yG ?_
  repeat refine LS.seq ?_
  refine LS.cond rfl (fun hc => ?_) (fun hc => ?_)
  · have hc := lt_of hc
    refine LS.skip ?_
    refine yG ?_
    refine OS.pure rfl (e_cat rfl rfl rfl (by simp; omega)) rfl ?_
    rw [← List.replicate_succ']
    refine yG ?_
    exact ⟨64 - (k + 1), by omega, k + 1, rfl, by omega, rfl, rfl⟩
  have hc := nlt_of hc
  obtain rfl : k = 64 := by omega
  refine LS.exit ?_
  generalize hln : List.replicate 64 (42 : UInt8) = ln
  have hlen : ln.length = 64 := by rw [← hln]; simp
  refine yG ?_
  refine OS.pure rfl (e_cat rfl rfl rfl (by simp; omega)) rfl ?_
  refine yG ?_
  refine OS.fresh rfl (e_new (fun _ => rfl) rfl) (fun _ => rfl) (fun rl => ?_)
  refine OS.gen fun R0 hR0 => ?_
  have hT : SV 3 R0 (.slice (some ⟨rl, 0, none⟩) 18 18) 18 (tri (tab ln)) := by rw [hR0]; exact SV.row (List.mem_cons_self ..) (by rw [tri_len]; rfl)
  clear hR0
  have htt : ∀ {k : Nat} {x : List UInt8 × List UInt8 × Bool}, (tab ln)[k]? = some x → mt x.1 x.2.1 = x.2.2 ∧ x.2.1.length ≤ 1000000 := by
    intro k x h; rw [← hln] at h; exact tab_true h
  have htl : (tab ln).length = 18 := rfl
  generalize tab ln = tb at hT htt htl
  refine yG ?_
  refine LS.loopJ [1, 32, 33, 34] (fun q a L' => ∃ (k : Nat) (X : RL), q = 18 - k ∧ k ≤ 18 ∧ L' = X ++ R0 ∧ a = [.chan none, str ln, .chan none, .chan none, .chan none, .chan none, .chan none, .chan none, .chan none, .chan none, .chan none, .chan none, .chan none, .chan none, .chan none, .chan none, .chan none, .chan none, .chan none, .chan none, .chan none, .chan none, .chan none, .chan none, .chan none, .chan none, .chan none, .chan none, .chan none, .chan none, .chan none, .chan none, .slice (some ⟨rl, 0, none⟩) 18 18, .int .i64 18, .int .i64 (k : Nat), .chan none, .chan none, .chan none, .chan none, .chan none, .chan none, .chan none, .chan none, .chan none, .chan none, .chan none, .chan none, .chan none, .chan none, .chan none, .chan none, .chan none, .chan none, .chan none, .chan none, .chan none, .chan none, .chan none, .chan none, .chan none, .chan none, .chan none, .chan none, .chan none, .chan none, .chan none, .chan none, .chan none, .chan none]) (n := 18) rfl ⟨0, [], rfl, by omega, rfl, rfl⟩ ?_
  rintro q a L' ⟨k, X, rfl, hk, rfl, rfl⟩
  have hT := hT.mono (L' := X ++ R0) fun y hy => List.mem_append_right _ hy
  refine yG ?_
  repeat refine LS.seq ?_
  refine LS.cond rfl (fun hc => ?_) (fun hc => ?_)
  · have hc := lt_of hc
    obtain ⟨⟨p, s, b⟩, hx⟩ := ext_list (l := tb) (k := k) (by omega)
    obtain ⟨hm, hsl⟩ := htt hx
    have hcut := tri_cut hx
    simp only at hm hsl hcut
    refine LS.skip ?_
    cases b
    all_goals
      refine yG ?_
      refine OS.at (sz := 3) (j := k) hT (by omega) rfl rfl rfl rfl rfl rfl (fun r0 o0 row0 cs0 m0 c0 _ k0 => ⟨_, rfl, ?_⟩)
      refine OS.read rfl (e_loadm m0 c0 rfl rfl (part_agg rfl rfl (k0 _ hcut))) rfl ?_
      refine OS.fresh rfl (e_new (fun _ => rfl) rfl) (fun _ => rfl) (fun rx => ?_)
      refine yG ?_
      repeat refine LS.seq ?_
      refine LS.drawn noGo mixed [(0, false), (1, false), (2, false), (3, false), (5, false), (6, false), (4, true), (7, false)] rfl rfl (by kernel_rfl) ?_
      refine yG ?_
      refine ODS.call rfl rfl (fun _ => rfl) ((Match_ct p s hsl).mono ?_)
      rintro v' L2 ⟨rfl, hL⟩
      rw [hL, hm]
      clear hL
      refine ⟨_, rfl, Keep.cons rfl (e_load 0 rfl rfl rfl rfl rfl) (Keep.gone rfl (Keep.gone rfl Keep.nil)), ?_⟩
      refine yG ?_
      exact ⟨18 - (k + 1), by omega, k + 1, (rx, _) :: X, rfl, by omega, rfl, rfl⟩
  clear hc
  refine LS.exit ?_
  have ck : ∀ (p : List UInt8) (z : Int) (R : RL), chk p = z → CS Try.prog 9 [str p] R fun v L' => v = .int .i64 z := fun p z R h => (Check_ct p).mono fun v L' h' => by rw [h'.1, h]
  refine yG ?_
  refine OS.call noGo rfl (fun _ => rfl) ((ck [] 4 _ (by decide)).mono ?_)
  rintro v' L2 rfl
  refine yG ?_
  refine OS.call noGo rfl (fun _ => rfl) ((ck [97, 32, 98] 4 _ (by decide)).mono ?_)
  rintro v' L2 rfl
  refine yG ?_
  refine OS.pure rfl (e_cat rfl rfl rfl (by simp; omega)) rfl ?_
  refine OS.call noGo rfl (fun _ => rfl) ((ck (ln ++ [42]) 40 _ (by rw [← hln]; decide)).mono ?_)
  rintro v' L2 rfl
  refine yG ?_
  refine OS.call noGo rfl (fun _ => rfl) ((ck ln 0 _ (by rw [← hln]; decide)).mono ?_)
  rintro v' L2 rfl
  refine yG ?_
  refine OS.call noGo rfl (fun _ => rfl) ((aw _).mono ?_)
  rintro v' L2 ⟨rfl, hL⟩
  refine yG ?_
  rfl
end Go.Proofs.Ytmaneoaliipccaa

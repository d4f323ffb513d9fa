/- Layer 11: split, works. -/
import Derived.Test.YtdacddkelagdnaaEm
namespace Go.Proofs.Ytdacddkelagdnaa
open Go.Am
set_option linter.unusedVariables false
set_option maxRecDepth 20000
set_option maxHeartbeats 4000000
attribute [local irreducible] OS LSr ODS CS

/-! ### The examples, plainly -/
def psF : Nat → List UInt8 → List Pc
  | 0, _ => []
  | n + 1, w => if w = [] then [] else pcOf (w.take (pSize w)) :: psF n (w.drop (pSize w))
theorem ps_F : ∀ (n : Nat) (w : List UInt8), w.length ≤ n → ps w = psF n w
  | 0, w, h => by
    obtain rfl : w = [] := List.eq_nil_of_length_eq_zero (by omega)
    rw [ps_nil]; rfl
  | n + 1, w, h => by
    cases w with
    | nil => rw [ps_nil]; rfl
    | cons c w =>
      have h1 := pSize_le (c := c) (w := w)
      rw [ps_cons (by simp), ps_F n _ (by rw [List.length_drop]; simp at h h1 ⊢; omega)]
      simp [psF]
def mtF (p s : List UInt8) : Bool := decide (chk p = 0) && ms (psF p.length p) s
theorem mt_F (p s : List UInt8) : mt p s = mtF p s := by unfold mt mtF; rw [ps_F _ p (Nat.le_refl _)]
def holdF (l : W) (o : Nat) (r : W) : Bool := if o = 1 then decide (l = r) else if o = 2 then !decide (l = r) else if o = 3 then mtF r l else false
theorem hold_F (l : W) (o : Nat) (r : W) : holdB l o r = holdF l o r := by unfold holdB holdF; rw [mt_F]
def evF : Md → X → Bool
  | .t, .cmp l o r => holdF l o r
  | .t, .neg x => !evF .t x
  | .t, .par c => evF .c c
  | .p, .cons h t => evF .t h && evF .p t
  | .p, .nil => true
  | .c, .cons h t => evF .p h || evF .c t
  | _, _ => false
theorem ev_F : ∀ {m : Md} {x : X}, ev m x = evF m x
  | .t, .cmp l o r => hold_F l o r
  | .t, .neg x => by unfold ev evF; rw [ev_F]
  | .t, .par c => by unfold ev evF; rw [ev_F]
  | .p, .cons h t => by unfold ev evF; rw [ev_F, ev_F]
  | .p, .nil => rfl
  | .c, .cons h t => by unfold ev evF; rw [ev_F, ev_F]
  | .c, .nil => rfl
  | .t, .nil => rfl
  | .t, .cons _ _ => rfl
  | .p, .cmp _ _ _ => rfl
  | .p, .neg _ => rfl
  | .p, .par _ => rfl
  | .c, .cmp _ _ _ => rfl
  | .c, .neg _ => rfl
  | .c, .par _ => rfl
def valF : Rs → Bool
  | .err _ => false
  | .ok x _ => evF .c x
theorem val_F (r : Rs) : valB r = valF r := by cases r with
  | err e => rfl
  | ok x r => exact ev_F
/-- A text cut at its blanks, from place i on; n: how many places are left. -/
def sp (s : List UInt8) : Nat → Nat → Nat → List W → List W
  | 0, _, _, out => out
  | n + 1, i, from', out => if s[i]?.getD 32 = 32 then sp s n (i + 1) (i + 1) (if from' < i then out ++ [(s.drop from').take (i - from')] else out) else sp s n (i + 1) from' out
def split (s : List UInt8) : List W := sp s (s.length + 1) 0 0 []
theorem split_ct {F : RL} (s : List UInt8) (hs : s.length ≤ 10000) : CS Try.prog 9 [str s] F fun u L' => GT F u (split s) L' := by
  refine CS.mk (fn := Try.f9) rfl rfl rfl rfl ?_
  refine yG ?_
  refine LS.loopJ [0, 3, 4, 5] (fun q a L' => ∃ (i fr : Nat) (u : Value) (out : List W), q = s.length + 1 - i ∧ i ≤ s.length + 1 ∧ fr ≤ i ∧ out.length ≤ i ∧ split s = sp s (s.length + 1 - i) i fr out ∧ GT F u out L' ∧ a = [str s, .chan none, .chan none, u, .int .i64 (fr : Nat), .int .i64 (i : Nat), .chan none, .chan none, .chan none, .chan none, .chan none, .chan none, .chan none, .chan none, .chan none, .chan none, .chan none, .chan none, .chan none, .chan none, .chan none, .chan none, .chan none, .chan none, .chan none, .chan none, .chan none, .chan none, .chan none, .chan none, .chan none, .chan none, .chan none, .chan none, .chan none]) (n := s.length + 1) rfl ⟨0, 0, .slice none 0 0, [], rfl, by omega, by omega, by simp, rfl, .nil, rfl⟩ ?_
  rintro q a L' ⟨i, fr, u, out, rfl, hi, hfr, ho, hsp, hg, rfl⟩
  by_cases hc : i ≤ s.length
  · have b1 : ileB ((i : Nat) : Int) ((s.length : Nat) : Int) = true := ileB_iff.2 (by omega)
    obtain ⟨n, hn⟩ : ∃ n, s.length + 1 - i = n + 1 := ⟨s.length - i, by omega⟩
    have hn2 : s.length + 1 - (i + 1) = n := by omega
    rw [hn] at hsp
    unfold sp at hsp
    by_cases hbl : s[i]?.getD 32 = 32
    · rw [if_pos hbl] at hsp
      by_cases hlt : fr < i
      · rw [if_pos hlt] at hsp
        have b3 : (!ileB ((i : Nat) : Int) ((fr : Nat) : Int)) = true := by rw [ileB_eq]; simp; omega
        have hgt : ∀ r2, GT F (.slice (some ⟨r2, 0, none⟩) (out.length + 1) openCap) (out ++ [(s.drop fr).take (i - fr)]) ((r2, .cells 9 (strs out ++ [str ((s.drop fr).take (i - fr))])) :: F) := by
          intro r2
          unfold GT
          rw [strs_snoc, List.length_append]
          exact GV.of (by simp [strs_len])
        by_cases hil : i = s.length
        · have b2 : ieqB ((i : Nat) : Int) ((s.length : Nat) : Int) = true := by rw [ieqB_eq]; simp; omega
          refine yG ?_
          refine OS.pure rfl (e_part (s := s) (l := fr) (u := i) rfl rfl rfl rfl bound_nat bound_nat rfl (by omega) (by omega)) rfl ?_
          refine yG ?_
          refine OS.fresh rfl (e_new (fun _ => rfl) rfl) (fun _ => rfl) (fun r1 => ?_)
          refine OS.fresh rfl (e_appendGV [(r1, .cells 9 [str ((s.drop fr).take (i - fr))])] (sz := 1) (bts := 16) (m := 1) (new := [str ((s.drop fr).take (i - fr))]) hg (SV.row (List.mem_cons_self ..) rfl) (by decide) rfl rfl rfl rfl (by omega) (by omega)) (fun _ => rfl) (fun r2 => ?_)
          refine OS.sub (Sub.drop 1 rfl) ?_
          refine yG ?_
          exact ⟨s.length + 1 - (i + 1), by omega, i + 1, i + 1, _, _, rfl, by omega, by omega, by simp; omega, by rw [hsp, hn2], hgt r2, rfl⟩
        · have b2 : ieqB ((i : Nat) : Int) ((s.length : Nat) : Int) = false := by rw [ieqB_eq]; simp; omega
          obtain ⟨c, hcb⟩ : ∃ c, s[i]? = some c := ⟨_, List.getElem?_eq_getElem (by omega)⟩
          rw [hcb] at hbl
          obtain rfl : c = 32 := hbl
          refine yG ?_
          refine OS.pure rfl (e_part (s := s) (l := fr) (u := i) rfl rfl rfl rfl bound_nat bound_nat rfl (by omega) (by omega)) rfl ?_
          refine yG ?_
          refine OS.fresh rfl (e_new (fun _ => rfl) rfl) (fun _ => rfl) (fun r1 => ?_)
          refine OS.fresh rfl (e_appendGV [(r1, .cells 9 [str ((s.drop fr).take (i - fr))])] (sz := 1) (bts := 16) (m := 1) (new := [str ((s.drop fr).take (i - fr))]) hg (SV.row (List.mem_cons_self ..) rfl) (by decide) rfl rfl rfl rfl (by omega) (by omega)) (fun _ => rfl) (fun r2 => ?_)
          refine OS.sub (Sub.drop 1 rfl) ?_
          refine yG ?_
          exact ⟨s.length + 1 - (i + 1), by omega, i + 1, i + 1, _, _, rfl, by omega, by omega, by simp; omega, by rw [hsp, hn2], hgt r2, rfl⟩
      · rw [if_neg hlt] at hsp
        have b3 : (!ileB ((i : Nat) : Int) ((fr : Nat) : Int)) = false := by rw [ileB_eq]; simp; omega
        by_cases hil : i = s.length
        · have b2 : ieqB ((i : Nat) : Int) ((s.length : Nat) : Int) = true := by rw [ieqB_eq]; simp; omega
          refine yG ?_
          exact ⟨s.length + 1 - (i + 1), by omega, i + 1, i + 1, u, out, rfl, by omega, by omega, by omega, by rw [hsp, hn2], hg, rfl⟩
        · have b2 : ieqB ((i : Nat) : Int) ((s.length : Nat) : Int) = false := by rw [ieqB_eq]; simp; omega
          obtain ⟨c, hcb⟩ : ∃ c, s[i]? = some c := ⟨_, List.getElem?_eq_getElem (by omega)⟩
          rw [hcb] at hbl
          obtain rfl : c = 32 := hbl
          refine yG ?_
          exact ⟨s.length + 1 - (i + 1), by omega, i + 1, i + 1, u, out, rfl, by omega, by omega, by omega, by rw [hsp, hn2], hg, rfl⟩
    · rw [if_neg hbl] at hsp
      have hil : i < s.length := by
        by_cases h : i < s.length
        · exact h
        · rw [List.getElem?_eq_none (by omega)] at hbl; exact absurd rfl hbl
      have b2 : ieqB ((i : Nat) : Int) ((s.length : Nat) : Int) = false := by rw [ieqB_eq]; simp; omega
      obtain ⟨c, hcb⟩ : ∃ c, s[i]? = some c := ⟨_, List.getElem?_eq_getElem hil⟩
      rw [hcb] at hbl
      have b4 : ieqB ((c.toNat : Nat) : Int) 32 = false := (cmp_u8 c (k := 32) 32 rfl).trans (by simpa using hbl)
      refine yG ?_
      exact ⟨s.length + 1 - (i + 1), by omega, i + 1, fr, u, out, rfl, by omega, by omega, by omega, by rw [hsp, hn2], hg, rfl⟩
  · have b1 : ileB ((i : Nat) : Int) ((s.length : Nat) : Int) = false := by rw [ileB_eq]; simp; omega
    obtain rfl : i = s.length + 1 := by omega
    rw [Nat.sub_self] at hsp
    refine yG ?_
    refine LS.exit ?_
    refine yG ?_
    exact hg.to hsp.symm
theorem OS.gen {P : Program} {ops rest : List Oper} {a : Slots} {L : RL} {K : Slots → RL → Prop} (k : ∀ R, R = L → OS P ops rest a R K) : OS P ops rest a L K := k L rfl
/-- The examples. -/
def tab : List (List UInt8 × Bool) := [([97, 32, 61, 61, 32, 97], true), ([97, 32, 61, 61, 32, 98, 32, 111, 114, 32, 97, 32, 126, 32, 42], true), ([110, 111, 116, 32, 97, 32, 61, 61, 32, 98, 32, 97, 110, 100, 32, 120, 32, 126, 32, 121, 42], false), ([40, 32, 97, 32, 61, 61, 32, 97, 32, 41], true), ([110, 111, 116, 32, 61, 61, 32, 110, 111, 116], true), ([110, 111, 116, 32, 110, 111, 116, 32, 97, 32, 61, 61, 32, 97], true), ([97, 32, 33, 61, 32, 97], false)]
def duo (l : List (List UInt8 × Bool)) : List Value := l.flatMap fun x => [str x.1, .bool x.2]
theorem duo_len : ∀ l, (duo l).length = l.length * 2
  | [] => rfl
  | x :: l => by
    have := duo_len l
    unfold duo at this ⊢
    rw [List.flatMap_cons, List.length_append, this, List.length_cons, List.length_cons, List.length_cons, List.length_nil]; omega
theorem duo_cut : ∀ {l : List (List UInt8 × Bool)} {k : Nat} {x : List UInt8 × Bool}, l[k]? = some x → cut (duo l) (k * 2) 2 = some [str x.1, .bool x.2]
  | y :: l, 0, x, h => by
    obtain rfl : y = x := by simpa using h
    rw [cut_of (by rw [duo_len]; simp; omega)]
    rfl
  | y :: l, k + 1, x, h => by
    have hx : l[k]? = some x := by simpa using h
    have hk := (List.getElem?_eq_some_iff.1 hx).1
    have ih := duo_cut hx
    rw [cut_of (by rw [duo_len]; omega)] at ih
    rw [cut_of (by rw [duo_len]; simp; omega), show (k + 1) * 2 = k * 2 + 2 by omega]
    exact ih
def Fif (w : List W) : Bool := decide (w.length ≤ 1000) && w.all fun t => decide (t.length ≤ 1000)
theorem Fif.fit {w : List W} (h : Fif w = true) : Fit w := by
  unfold Fif at h
  rw [Bool.and_eq_true, decide_eq_true_iff] at h
  exact ⟨Nat.le_trans h.1 (by decide), fun t ht => Nat.le_trans (of_decide_eq_true (List.all_eq_true.1 h.2 t ht)) (by decide)⟩
theorem tab_true {k : Nat} {x : List UInt8 × Bool} (h : tab[k]? = some x) : valB (parse (split x.1)) = x.2 ∧ errN (parse (split x.1)) = 0 ∧ Fit (split x.1) ∧ x.1.length ≤ 10000 := by
  have hall : tab.all (fun x => (valF (parse (split x.1)) == x.2) && (decide (errN (parse (split x.1)) = 0) && (Fif (split x.1) && decide (x.1.length ≤ 10000)))) = true := by decide +kernel
  have := List.all_eq_true.1 hall x (List.mem_of_getElem? h)
  rw [Bool.and_eq_true, Bool.and_eq_true, Bool.and_eq_true, beq_iff_eq, decide_eq_true_iff, decide_eq_true_iff] at this
  exact ⟨by rw [val_F]; exact this.1, this.2.1, Fif.fit this.2.2.1, this.2.2.2⟩
theorem works_ct {F : RL} : CS Try.prog 7 [] F fun u L' => u = .bool true ∧ L' = F := by
  suffices hh : CS Try.prog 7 [] F fun u L' => u = .bool true ∧ ∃ X, L' = X ++ F from
    hh.less fun v L' ⟨h1, Y, h2⟩ => ⟨F, by rw [h2]; exact ⟨Y, List.perm_append_comm⟩, h1, rfl⟩
  refine CS.mk (fn := Try.f7) rfl rfl rfl rfl ?_
  refine yG ?_
  refine OS.fresh rfl (e_new (fun _ => rfl) rfl) (fun _ => rfl) (fun rl => ?_)
  refine OS.gen fun R0 hR0 => ?_
  have hT : SV 2 R0 (.slice (some ⟨rl, 0, none⟩) 7 7) 7 (duo tab) := by rw [hR0]; exact SV.row (List.mem_cons_self ..) (by rw [duo_len]; rfl)
  have htt : ∀ {k : Nat} {x : List UInt8 × Bool}, tab[k]? = some x → valB (parse (split x.1)) = x.2 ∧ errN (parse (split x.1)) = 0 ∧ Fit (split x.1) ∧ x.1.length ≤ 10000 := fun h => tab_true h
  have hR1 : ∃ x, R0 = x :: F := ⟨_, hR0⟩
  clear hR0
  have htl : tab.length = 7 := rfl
  generalize tab = tb at hT htt htl
  refine yG ?_
  refine LS.loopJ [12, 13, 14] (fun q a L' => ∃ (k : Nat) (X : RL), q = 7 - k ∧ k ≤ 7 ∧ L' = X ++ R0 ∧ a = [.chan none, .chan none, .chan none, .chan none, .chan none, .chan none, .chan none, .chan none, .chan none, .chan none, .chan none, .chan none, .slice (some ⟨rl, 0, none⟩) 7 7, .int .i64 7, .int .i64 (k : Nat), .chan none, .chan none, .chan none, .chan none, .chan none, .chan none, .chan none, .chan none, .chan none, .chan none, .chan none, .chan none, .chan none, .chan none, .chan none, .chan none, .chan none, .chan none, .chan none]) (n := 7) rfl ⟨0, [], rfl, by omega, rfl, rfl⟩ ?_
  rintro q a L' ⟨k, X, rfl, hk, rfl, rfl⟩
  have hT := hT.mono (L' := X ++ R0) fun y hy => List.mem_append_right _ hy
  refine yG ?_
  repeat refine LS.seq ?_
  refine LS.cond rfl (fun hc => ?_) (fun hc => ?_)
  · have hc := lt_of hc
    obtain ⟨⟨s, b⟩, hx⟩ := ext_list (l := tb) (k := k) (by omega)
    obtain ⟨hv, he, hf, hsl⟩ := htt hx
    have hcut := duo_cut hx
    simp only at hv he hf hsl hcut
    refine LS.skip ?_
    repeat refine LS.seq ?_
    refine LS.block ?_
    refine yG ?_
    refine OS.at (sz := 2) (j := k) hT (by omega) rfl rfl rfl rfl rfl rfl (fun r0 o0 row0 cs0 m0 c0 _ k0 => ⟨_, rfl, ?_⟩)
    refine OS.read rfl (e_loadm m0 c0 rfl rfl (part_agg rfl rfl (k0 _ hcut))) rfl ?_
    refine OS.fresh rfl (e_new (fun _ => rfl) rfl) (fun _ => rfl) (fun rx => ?_)
    refine yG ?_
    refine OS.call noGo rfl (fun _ => rfl) ((split_ct s hsl).mono ?_)
    rintro u L2 hg
    have hval := Value_ct (F := L2) hg.wl hf
    rw [hv, he] at hval
    have hxm := hg.mem (rx, _) (List.mem_cons_self ..)
    refine yG ?_
    refine OS.call noGo rfl (fun _ => rfl) ((hval).mono ?_)
    rintro u' L3 ⟨rfl, hL⟩
    rw [hL]
    clear hL
    refine yG ?_
    refine OS.read rfl (e_loadm hxm rfl rfl rfl (part_one rfl rfl)) rfl ?_
    cases b
    all_goals
      refine yG ?_
      rcases hg with ⟨_, _, _, rfl⟩ | ⟨r9, _, _, rfl⟩
      · exact ⟨7 - (k + 1), by omega, k + 1, _ :: X, rfl, by omega, rfl, rfl⟩
      · exact ⟨7 - (k + 1), by omega, k + 1, _ :: _ :: X, rfl, by omega, rfl, rfl⟩
  clear hc
  obtain ⟨x, rfl⟩ := hR1
  refine LS.exit ?_
  refine yG ?_
  exact ⟨rfl, X ++ [x], by simp⟩
end Go.Proofs.Ytdacddkelagdnaa

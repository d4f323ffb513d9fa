/- Layer 15: who needs a thing; what one comes to from it. -/
import Derived.Test.YteakbbnlkjckhaaGrG
namespace Go.Am
set_option linter.unusedVariables false
set_option linter.unusedSimpArgs false
section
variable {P : Program} {o : Oper} {a : Slots} {L : RL}
theorem e_appendV {c : Call} {e : TypeId} {sz bts n m r : Nat} {x : Value} {cs new : List Value} (hs : SV sz L x m new) (hm : 0 < m) (hv : SV sz L (.slice (some ⟨r, 0, none⟩) n n) n cs) (hn : n < openCap) (hone : allOne new = true) (ho : o.op = .call c) (hT : appT P c = some (e, sz, bts)) (ha : evs a c.args.toList = some [.slice (some ⟨r, 0, none⟩) n n, x])
    (hsm : (n + m + n) * bts ≤ 140737488355328) (hsm2 : n + m ≤ 140737488355328) :
    ∀ h, Has h L → ∃ r' h₁, opB P a o h = some (.val (.slice (some ⟨r', 0, none⟩) (n + m) openCap) h₁) ∧ Has h₁ ((r', .cells e (cs ++ new)) :: L) := by
  intro h H
  have hn1 := hs.lenB
  have hf : firstB sz m x h = some new := hs.first H
  have hf0 : firstB sz n (.slice (some ⟨r, 0, none⟩) n n) h = some cs := hv.first H
  have hone' : (allOne new && (notText x || Nat.beq sz 1)) = true := by rw [hone, hs.notText]; rfl
  unfold appT at hT
  split at hT
  case h_2 => cases hT
  rename_i hcal
  split at hT
  case h_2 => cases hT
  rename_i st xt hst hxt
  split at hT
  case h_2 => cases hT
  rename_i e' xd hu1 hu2
  have hxd : (∀ k, xd = .int k → False) ∧ ∃ i, P.info? e' = some i ∧ zeroFits P e' = true ∧ e' = e ∧ i.size = sz ∧ i.bytes = bts := by
    split at hT
    · cases hT
    · rename_i hno
      split at hT
      case h_2 => cases hT
      rename_i i hi hz
      simp at hT
      obtain ⟨rfl, rfl, rfl⟩ := hT
      exact ⟨fun k hk => hno k hk, i, hi, hz, rfl, rfl, rfl⟩
  obtain ⟨hno, i, hi, hz, rfl, rfl, rfl⟩ := hxd
  obtain ⟨h₁, e₁⟩ := h.new_some (.cells e' (cs ++ new))
  refine ⟨h.next, h₁, ?_, H.new e₁⟩
  have hs' : sizeB P e' = some i.size := by unfold sizeB; rw [hi]
  have b2 : Nat.ble (n + m) 140737488355328 = true := Nat.ble_eq_true_of_le hsm2
  have hgrow : growB P h e' (n + m) cs new = some (.slice (some ⟨h.next, 0, none⟩) (n + m) openCap, h₁) := by
    simp only [growB, join_of, hz, b2, Bool.and_self, newCells, hs', e₁]
  simp only [opB, ho, ha, callOpB, hcal, appendB, hst, hxt, hu1, hu2]
  cases xd <;> first | exact (hno _ rfl).elim | skip
  all_goals
    simp only [hi, hn1, hf, hone']
    have hc : Nat.beq n openCap = false := beq_false (by omega)
    have b0 : Nat.ble (n + m) n = false := by
      cases hb : Nat.ble (n + m) n with
      | false => rfl
      | true => have := of_ble hb; omega
    have b1 : smallB (n + m + n) i.bytes = true := by unfold smallB; exact Nat.ble_eq_true_of_le hsm
    simp only [hc, b0, hf0, b1, hgrow, ret2]
end
section
variable {P : Program} {o : Oper} {a : Slots} {L : RL} {t e : TypeId} {x y z : Operand} {k k' : IntKind}
theorem e_slice3L {r n c u : Nat} (ho : o.op = .slice t x none (some y) (some z)) (hx : aev a x = some (.slice (some ⟨r, 0, none⟩) n c)) (hy : aev a y = some (.int k (u : Nat))) (hz' : aev a z = some (.int k' (u : Nat)))
    (ht : P.underlying t = some (.slice e)) (hz : sizeB P e = some 1) (hc : c = openCap ∨ n ≤ c) (hu : u ≤ n) (hub : u ≤ 140737488355328) : ∀ h, opB P a o h = some (.val (.slice (some ⟨r, 0, none⟩) u u) h) := by
  intro h
  have hm : optEv a none = some none := rfl
  have hoy : optEv a (some y) = some (some (.int k (u : Nat))) := by simp only [optEv, hy]
  have hoz : optEv a (some z) = some (some (.int k' (u : Nat))) := by simp only [optEv, hz']
  have bl : boundB none 0 = some 0 := rfl
  have h0 : Nat.ble 0 u = true := Nat.ble_eq_true_of_le (Nat.zero_le _)
  have h1 : Nat.ble u u = true := Nat.ble_eq_true_of_le (Nat.le_refl _)
  have h2 : Nat.ble u 140737488355328 = true := Nat.ble_eq_true_of_le hub
  have h3 : Nat.ble u (farB n c) = true := by
    unfold farB
    split
    · exact Nat.ble_eq_true_of_le hu
    · rename_i hb
      rcases hc with rfl | hc
      · rw [beq_true rfl] at hb; cases hb
      · exact Nat.ble_eq_true_of_le (by omega)
  have e0 : (0 + 0 * 1 : Nat) = 0 := rfl
  simp only [opB, ho, hx, hm, hoy, hoz, sliceB, ht, bound_nat, bl, hz, h0, h1, h2, h3, Option.isSome, Bool.true_and, moved, ret, Nat.sub_zero, Nat.zero_mul, Nat.add_zero]
end
end Go.Am
namespace Go.Gp
set_option linter.unusedVariables false
set_option linter.unusedSimpArgs false
theorem two_parts {A : Type} {T : List A} {k : Nat} {x : A} (h : T[k]? = some x) : T = T.take k ++ x :: T.drop (k + 1) := by
  have hk := (List.getElem?_eq_some_iff.1 h).1
  have e := (List.getElem?_eq_some_iff.1 h).2
  rw [← e, ← List.drop_eq_getElem_cons hk, List.take_append_drop]
theorem two_set {A : Type} {T : List A} {k : Nat} {x : A} (h : T[k]? = some x) (y : A) : T.set k y = T.take k ++ y :: T.drop (k + 1) := by
  have hk := (List.getElem?_eq_some_iff.1 h).1
  rw [List.set_eq_take_append_cons_drop, if_pos hk]
theorem take_snoc' {A : Type} {l : List A} {j : Nat} {k : A} (h : l[j]? = some k) : l.take (j + 1) = l.take j ++ [k] := by rw [List.take_add_one, h]; rfl
/-- How many stand open yet. -/
def unr (b : Nat → Bool) : Nat → Nat
  | 0 => 0
  | n + 1 => unr b n + if b n then 0 else 1
def upb (b : Nat → Bool) (k : Nat) : Nat → Bool := fun x => x == k || b x
theorem upb_self (b : Nat → Bool) (k : Nat) : upb b k k = true := by simp [upb]
theorem upb_mono {b : Nat → Bool} {k x : Nat} (h : b x = true) : upb b k x = true := by simp [upb, h]
theorem upb_inv {b : Nat → Bool} {k x : Nat} (h : upb b k x = true) : x = k ∨ b x = true := by simpa [upb] using h
theorem unr_same {b : Nat → Bool} {k : Nat} : ∀ n, n ≤ k → unr (upb b k) n = unr b n
  | 0, _ => rfl
  | n + 1, h => by
    have : upb b k n = b n := by
      have : (n == k) = false := by simp; omega
      simp [upb, this]
    rw [unr, unr, unr_same n (by omega), this]
theorem unr_upb {b : Nat → Bool} {k : Nat} (hb : b k = false) : ∀ n, k < n → unr (upb b k) n + 1 = unr b n
  | 0, h => by omega
  | n + 1, h => by
    rw [unr, unr]
    by_cases hk : k = n
    · subst hk
      rw [unr_same k (Nat.le_refl _), upb_self, hb]; simp
    · have : upb b k n = b n := by
        have : (n == k) = false := by simp; omega
        simp [upb, this]
      have ih := unr_upb hb n (by omega)
      rw [this]; omega
theorem unr_le (b : Nat → Bool) : ∀ n, unr b n ≤ n
  | 0 => Nat.le_refl _
  | n + 1 => by have := unr_le b n; rw [unr]; split <;> omega
/-- What was come to, and what is to be looked at. -/
structure RI (M : Nd) (f : Nat) (b : Nat → Bool) (lf E : List Nat) : Prop where
  path : ∀ k, b k = true → Path M f k
  from' : ∀ x, x ∈ lf → x = f ∨ b x = true
  next : ∀ x, x ∈ E → x = f ∨ b x = true
  done : ∀ x, (x = f ∨ b x = true) → x ∈ lf ∨ x ∈ E ∨ ∀ k, k ∈ nd M x → b k = true
theorem RI.start (M : Nd) (f : Nat) : RI M f (fun _ => false) [f] [] :=
  ⟨fun k h => (by cases h), fun x h => .inl (by simpa using h), fun x h => (by cases h), fun x h => .inl (h.elim (fun h => by simp [h]) (fun h => by cases h))⟩
theorem RI.cut {M : Nd} {f : Nat} {b : Nat → Bool} {l : List Nat} (h : RI M f b l []) (m : Nat) : RI M f b (l.take m) (l.drop m) :=
  ⟨h.path, fun x hx => h.from' x (List.mem_of_mem_take hx), fun x hx => h.from' x (List.mem_of_mem_drop hx), fun x hx => by
    rcases h.done x hx with h1 | h1 | h1
    · rw [← List.take_append_drop m l] at h1
      rcases List.mem_append.1 h1 with h1 | h1
      · exact .inl h1
      · exact .inr (.inl h1)
    · cases h1
    · exact .inr (.inr h1)⟩
theorem RI.add {M : Nd} {f x k : Nat} {b : Nat → Bool} {lf E : List Nat} (h : RI M f b lf E) (hx : x ∈ E) (hk : k ∈ nd M x) : RI M f (upb b k) (lf ++ [k]) E :=
  ⟨fun y hy => by
    rcases upb_inv hy with rfl | hy
    · rcases h.next x hx with rfl | hb
      · exact .one hk
      · exact (h.path x hb).snoc hk
    · exact h.path y hy,
  fun y hy => by
    rcases List.mem_append.1 hy with hy | hy
    · exact (h.from' y hy).imp id upb_mono
    · simp at hy; subst hy; exact .inr (upb_self b _),
  fun y hy => (h.next y hy).imp id upb_mono,
  fun y hy => by
    have key : (y = f ∨ b y = true) → y ∈ lf ++ [k] ∨ y ∈ E ∨ ∀ j, j ∈ nd M y → upb b k j = true := fun hh => by
      rcases h.done y hh with h1 | h1 | h1
      · exact .inl (List.mem_append_left _ h1)
      · exact .inr (.inl h1)
      · exact .inr (.inr fun j hj => upb_mono (h1 j hj))
    rcases hy with hy | hy
    · exact key (.inl hy)
    · rcases upb_inv hy with rfl | hy
      · exact .inl (by simp)
      · exact key (.inr hy)⟩
theorem RI.pass {M : Nd} {f x : Nat} {b : Nat → Bool} {lf E : List Nat} (h : RI M f b lf (x :: E)) (hx : ∀ k, k ∈ nd M x → b k = true) : RI M f b lf E :=
  ⟨h.path, h.from', fun y hy => h.next y (List.mem_cons_of_mem _ hy), fun y hy => by
    rcases h.done y hy with h1 | h1 | h1
    · exact .inl h1
    · rcases List.mem_cons.1 h1 with rfl | h1
      · exact .inr (.inr hx)
      · exact .inr (.inl h1)
    · exact .inr (.inr h1)⟩
theorem RI.end {M : Nd} {f : Nat} {b : Nat → Bool} (h : RI M f b [] []) (k : Nat) : b k = true ↔ Path M f k := by
  refine ⟨h.path k, fun hp => ?_⟩
  have key : ∀ {i k : Nat}, Path M i k → (i = f ∨ b i = true) → b k = true := by
    intro i k hp
    induction hp with
    | one hk =>
      intro hi
      rcases h.done _ hi with h1 | h1 | h1
      · cases h1
      · cases h1
      · exact h1 _ hk
    | more hk _ ih =>
      intro hi
      rcases h.done _ hi with h1 | h1 | h1
      · cases h1
      · cases h1
      · exact ih (.inr (h1 _ hk))
  exact key hp (.inl rfl)
theorem RI.lt {M : Nd} {f : Nat} {b : Nat → Bool} {lf E : List Nat} (h : RI M f b lf E) (hM : Ok M) (hf : f < M.length) {x : Nat} (hx : x ∈ E) : x < M.length := by
  rcases h.next x hx with rfl | hb
  · exact hf
  · exact (h.path x hb).in hM
end Go.Gp
namespace Go.Proofs.Yteakbbnlkjckhaa
open Go.Am Go.Gp
set_option linter.unusedVariables false
set_option linter.unusedSimpArgs false
set_option maxRecDepth 20000
set_option maxHeartbeats 4000000
attribute [local irreducible] OS LSr ODS CS
/-- Lists of numbers that are appended to, each in a row of its own. -/
abbrev Tb : Type := List (Option Nat × List Nat)
def vl (x : Option Nat × List Nat) : Value := match x.1 with | none => .slice none 0 0 | some r => .slice (some ⟨r, 0, none⟩) x.2.length openCap
def rw1 (x : Option Nat × List Nat) : RL := match x.1 with | none => [] | some r => [(r, .cells tI (ns x.2))]
def vls (T : Tb) : List Value := T.map vl
def rws (T : Tb) : RL := T.flatMap rw1
def TOk (T : Tb) (m : Nat) : Prop := ∀ x, x ∈ T → (x.1 = none → x.2 = []) ∧ x.2.length ≤ m
theorem vls_len (T : Tb) : (vls T).length = T.length := by simp [vls]
theorem gv1 {x : Option Nat × List Nat} (h : x.1 = none → x.2 = []) (F : RL) : GV tI 1 F (vl x) x.2.length (ns x.2) (rw1 x ++ F) := by
  obtain ⟨o, w⟩ := x
  cases o with
  | none => rw [h rfl]; exact .nil
  | some r => exact GV.of (by simp [ns_len])
theorem rws_two (A : Tb) (x : Option Nat × List Nat) (B : Tb) : rws (A ++ x :: B) = rws A ++ (rw1 x ++ rws B) := by simp [rws]
abbrev tN : TypeId := 23
theorem makeT_lists : makeT Try.prog 24 = some (tN, 1, 24, [.slice none 0 0]) := by kernel_rfl
theorem makeT_bools : makeT Try.prog 42 = some (4, 1, 1, [.bool false]) := by kernel_rfl
theorem makeT_ints : makeT Try.prog 23 = some (tI, 1, 8, [iN 0]) := by kernel_rfl
theorem nd_map (T : Tb) (k : Nat) {x : Option Nat × List Nat} (h : T[k]? = some x) : nd (T.map (·.2)) k = x.2 := nd_at (by rw [List.getElem?_map, h]; rfl)
theorem nd_set {M : Nd} {k : Nat} (hk : k < M.length) (w : List Nat) (j : Nat) : nd (M.set k w) j = if j = k then w else nd M j := by
  unfold nd
  rw [List.getD_eq_getElem?_getD, List.getD_eq_getElem?_getD, List.getElem?_set]
  by_cases h : k = j
  · subst h; simp [hk]
  · rw [if_neg h, if_neg (Ne.symm h)]
theorem needers_ct {L : RL} {v : Value} {M : Nd} (hv : NL L v (nv M)) (hM : Ok M) (hn : M.length ≤ 4096) (ht : tot M ≤ 65536) :
    CS Try.prog 27 [v] L fun u L' => ∃ R Y, L' = Y ++ L ∧ NL Y u (nv R) ∧ Turned M R ∧ ∀ i, i < R.length → (nd R i).length ≤ 65536 := by
  obtain ⟨ics, hs, hg⟩ := hv.ofN
  refine CS.mk (fn := Try.f27) rfl rfl rfl rfl ?_
  refine yG ?_
  refine OS.fresh rfl (e_make (l := M.length) (c := M.length) rfl rfl rfl makeT_lists (Nat.le_refl _) (by omega) (by omega)) (fun _ => rfl) (fun rl => ?_)
  refine yG ?_
  refine LS.loopJ [3, 11, 12, 13] (fun q a L' => ∃ (i : Nat) (T : Tb), q = M.length - i ∧ i ≤ M.length ∧ T.length = M.length ∧ TOk T (tot (M.take i)) ∧ (∀ k x, k < M.length → (nd (T.map (·.2)) k).count x = if x < i then (nd M x).count k else 0) ∧ L' = (rl, .cells tN (vls T)) :: (rws T ++ L) ∧ a = [.chan none, .chan none, .chan none, .slice (some ⟨rl, 0, none⟩) M.length M.length, .chan none, .chan none, .chan none, .chan none, .chan none, .chan none, .chan none, v, iN M.length, iN i, .chan none, .chan none, .chan none, .chan none, .chan none, .chan none, .chan none, .chan none, .chan none, .chan none, .chan none, .chan none, .chan none, .chan none, .chan none, .chan none, .chan none, .chan none, .chan none, .chan none, .chan none, .chan none, .chan none]) (n := M.length) rfl
    ⟨0, List.replicate M.length (none, []), rfl, by omega, by simp, fun x hx => by rw [List.eq_of_mem_replicate hx]; simp, fun k x hk => by rw [nd_map _ k (x := (none, [])) (by rw [List.getElem?_replicate, if_pos hk])]; simp, by
      have e1 : vls (List.replicate M.length ((none, []) : Option Nat × List Nat)) = repL [.slice none 0 0] M.length := by simp [vls, vl, repL]
      have e2 : rws (List.replicate M.length ((none, []) : Option Nat × List Nat)) = [] := by simp [rws, rw1, List.flatMap_replicate]
      rw [e1, e2]; rfl, rfl⟩ ?_
  rintro q a L' ⟨i, T, rfl, hi, hTl, hTo, hcnt, rfl, rfl⟩
  have hs1 : SV 1 ((rl, .cells tN (vls T)) :: (rws T ++ L)) v M.length ics := (hs.mono fun p hp => List.mem_append_right _ hp).cons
  by_cases hin : i < M.length
  · have hbi : (!ileB ((M.length : Nat) : Int) (i : Nat)) = true := by rw [ileB_eq]; simp; omega
    obtain ⟨b, hb, hsw⟩ := hg i (nd M i) (at_nd hin)
    have hwl := tot_mem (at_nd hin)
    have hsw1 : SV 1 ((rl, .cells tN (vls T)) :: (rws T ++ L)) b (nd M i).length (ns (nd M i)) := (hsw.mono fun p hp => List.mem_append_right _ hp).cons
    refine yG ?_
    refine OS.at1 (j := i) (hs1) (hb) rfl rfl rfl rfl rfl rfl (fun ra0 oa0 rowa0 csa0 ma0 ca0 ga0 => ⟨_, rfl, ?_⟩)
    refine OS.read rfl (e_loadm ma0 ca0 rfl rfl (part_one rfl ga0)) rfl ?_
    refine yG ?_
    refine LS.loopJ [3, 4, 11, 12, 13, 18, 19, 20] (fun q a L' => ∃ (j : Nat) (T : Tb), q = (nd M i).length - j ∧ j ≤ (nd M i).length ∧ T.length = M.length ∧ TOk T (tot (M.take i) + j) ∧ (∀ k x, k < M.length → (nd (T.map (·.2)) k).count x = if x < i then (nd M x).count k else if x = i then ((nd M i).take j).count k else 0) ∧ L' = (rl, .cells tN (vls T)) :: (rws T ++ L) ∧ a = [.chan none, .chan none, .chan none, .slice (some ⟨rl, 0, none⟩) M.length M.length, iN i, .chan none, .chan none, .chan none, .chan none, .chan none, .chan none, v, iN M.length, iN i, .chan none, .chan none, .chan none, .chan none, b, iN (nd M i).length, iN j, .chan none, .chan none, .chan none, .chan none, .chan none, .chan none, .chan none, .chan none, .chan none, .chan none, .chan none, .chan none, .chan none, .chan none, .chan none, .chan none]) (n := (nd M i).length) rfl ⟨0, T, rfl, by omega, hTl, hTo, fun k x hk => by rw [hcnt k x hk]; simp, rfl, rfl⟩ ?_
    clear hcnt hs1 hsw1
    rintro q a L' ⟨j, T, rfl, hj, hTl, hTo, hcnt, rfl, rfl⟩
    have hsw1 : SV 1 ((rl, .cells tN (vls T)) :: (rws T ++ L)) b (nd M i).length (ns (nd M i)) := (hsw.mono fun p hp => List.mem_append_right _ hp).cons
    by_cases hjw : j < (nd M i).length
    · have hbj : (!ileB (((nd M i).length : Nat) : Int) (j : Nat)) = true := by rw [ileB_eq]; simp; omega
      obtain ⟨k, hk⟩ := ext_list hjw
      have hkn : k < M.length := hM i k (List.mem_of_getElem? hk)
      obtain ⟨x, hx⟩ := ext_list (l := T) (k := k) (by omega)
      obtain ⟨hxo, hxl⟩ := hTo x (List.mem_of_getElem? hx)
      have htl := tot_le M (i + 1)
      rw [tot_succ (at_nd hin)] at htl
      have hlv : SV 1 ((rl, ARow.cells tN (vls T)) :: (rws T ++ L)) (.slice (some ⟨rl, 0, none⟩) M.length M.length) M.length (vls T) := SV.row (List.mem_cons_self ..) (by rw [vls_len, hTl]; simp)
      refine yG ?_
      refine OS.at1 (j := j) (hsw1) (ns_at hk) rfl rfl rfl rfl rfl rfl (fun ra0 oa0 rowa0 csa0 ma0 ca0 ga0 => ⟨_, rfl, ?_⟩)
      refine OS.read rfl (e_loadm ma0 ca0 rfl rfl (part_one rfl ga0)) rfl ?_
      refine yG ?_
      refine OS.at1 (j := k) (hlv) ((show (vls T)[k]? = some (vl x) by rw [vls, List.getElem?_map, hx]; rfl)) rfl rfl rfl rfl rfl rfl (fun ra1 oa1 rowa1 csa1 ma1 ca1 ga1 => ⟨_, rfl, ?_⟩)
      refine OS.read rfl (e_loadm ma1 ca1 rfl rfl (part_one rfl ga1)) rfl ?_
      refine yG ?_
      refine OS.fresh rfl (e_new (fun _ => rfl) rfl) (fun _ => rfl) (fun rb => ?_)
      refine OS.sub (Sub.sums (A := (rb, .cells tI [iN i]) :: (rl, .cells tN (vls T)) :: (rw1 x ++ (rws (T.take k) ++ (rws (T.drop (k + 1)) ++ L)))) fun f => by rw [show rws T = rws (T.take k) ++ (rw1 x ++ rws (T.drop (k + 1))) by rw [← rws_two, ← two_parts hx]]; simp; omega) ?_
      refine OS.fresh rfl (e_appendGV [_, _] (m := 1) (sz := 1) (bts := 8) (gv1 hxo _) (SV.row (sz := 1) (n := 1) (List.mem_cons_self ..) rfl) (by omega) rfl rfl rfl rfl (by omega) (by omega)) (fun _ => rfl) (fun r2 => ?_)
      refine OS.sub (Sub.drop 1 rfl) ?_
      refine OS.pure rfl (e_index (j := k) (sz := 1) rfl rfl rfl Try.underlying24 rfl hkn) rfl ?_
      refine OS.write rfl (e_store 1 (n := 1) rfl rfl rfl rfl rfl rfl (by rw [show 0 + k * 1 = k by omega]; exact lay_one (by rw [vls_len]; omega)) rfl) rfl ?_
      refine OS.sub (Sub.sums (A := (rl, .cells tN (vls (T.set k (some r2, x.2 ++ [i])))) :: (rws (T.set k (some r2, x.2 ++ [i])) ++ L)) fun f => by rw [two_set hx, rws_two]; simp [vls, vl, rw1, ns_snoc, ← two_set hx, List.map_set]; omega) ?_
      refine yG ?_
      refine ⟨(nd M i).length - (j + 1), by omega, j + 1, T.set k (some r2, x.2 ++ [i]), rfl, by omega, by simp [hTl], fun y hy => ?_, fun k' x' hk' => ?_, rfl, rfl⟩
      · rcases List.mem_or_eq_of_mem_set hy with hy | rfl
        · have := hTo y hy
          exact ⟨this.1, by omega⟩
        · exact ⟨fun h => (by cases h), by simp; omega⟩
      · have h1 := hcnt k' x' hk'
        rw [List.map_set, nd_set (by simp; omega)]
        rw [take_snoc' hk, List.count_append]
        by_cases hkk : k' = k
        · subst hkk
          rw [if_pos rfl, List.count_append]
          rw [nd_map _ _ hx] at h1
          rw [h1]
          by_cases e1 : x' < i
          · rw [if_pos e1, if_pos e1]
            have : ¬ i = x' := by omega
            simp [List.count_singleton, this]
          · rw [if_neg e1, if_neg e1]
            by_cases e2 : x' = i
            · subst e2; simp
            · have : ¬ i = x' := fun h => e2 h.symm
              simp [e2, List.count_singleton, this]
        · rw [if_neg hkk, h1]
          have : ¬ k = k' := fun h => hkk h.symm
          simp [List.count_singleton, this]
    · have hbj : (!ileB (((nd M i).length : Nat) : Int) (j : Nat)) = false := by rw [ileB_eq]; simp; omega
      refine yG ?_
      refine LS.exit ?_
      refine yG ?_
      refine ⟨M.length - (i + 1), by omega, i + 1, T, rfl, by omega, hTl, fun x hx => ⟨(hTo x hx).1, by rw [tot_succ (at_nd hin)]; have := (hTo x hx).2; omega⟩, fun k x hk => ?_, rfl, rfl⟩
      rw [hcnt k x hk, List.take_of_length_le (by omega)]
      by_cases e1 : x < i
      · rw [if_pos e1, if_pos (by omega)]
      · rw [if_neg e1]
        by_cases e2 : x = i
        · subst e2; simp
        · rw [if_neg e2, if_neg (by omega)]
  · have hbi : (!ileB ((M.length : Nat) : Int) (i : Nat)) = false := by rw [ileB_eq]; simp; omega
    obtain rfl : i = M.length := by omega
    refine yG ?_
    refine LS.exit ?_
    refine yG ?_
    refine ⟨T.map (·.2), (rl, .cells tN (vls T)) :: rws T, rfl, ⟨vls T, ?_, fun k w hw => ?_⟩, ⟨by simp [hTl], fun k hk x => ?_⟩, fun k hk => ?_⟩
    · rw [nv_len, List.length_map, hTl]
      exact SV.row (List.mem_cons_self ..) (by rw [vls_len, hTl]; simp)
    · rw [nv, List.getElem?_map, List.getElem?_map] at hw
      obtain ⟨x, hx, rfl⟩ := Option.map_eq_some_iff.1 hw
      obtain ⟨y, hy, rfl⟩ := Option.map_eq_some_iff.1 hx
      refine ⟨vl y, by rw [vls, List.getElem?_map, hy]; rfl, ?_⟩
      have hyo := (hTo y (List.mem_of_getElem? hy)).1
      have hmem : ∀ p, p ∈ rw1 y → p ∈ (rl, ARow.cells tN (vls T)) :: rws T := fun p hp => List.mem_cons_of_mem _ (List.mem_flatMap.2 ⟨y, List.mem_of_getElem? hy, hp⟩)
      have := (gv1 hyo []).sv
      rw [List.append_nil] at this
      rw [ns_len]
      exact this.mono hmem
    · rw [hcnt k x hk]
      by_cases e1 : x < M.length
      · rw [if_pos e1]
      · rw [if_neg e1, nd_out (by omega)]; simp
    · obtain ⟨x, hx⟩ := ext_list (l := T) (k := k) (by simpa using hk)
      rw [nd_map _ _ hx]
      have := (hTo x (List.mem_of_getElem? hx)).2
      have := tot_le M M.length
      omega
end Go.Proofs.Yteakbbnlkjckhaa

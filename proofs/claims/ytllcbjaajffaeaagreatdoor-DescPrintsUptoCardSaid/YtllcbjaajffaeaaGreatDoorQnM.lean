import Derived.Test.YtllcbjaajffaeaaGreatDoorRtM
import Derived.Test.YtllcbjaajffaeaaGreatDoorQf
import Derived.Test.YtllcbjaajffaeaaGreatDoorQgM
namespace Go.Proofs.YtllcbjaajffaeaaGreatDoor
open Go.Am Go.Pd
set_option linter.unusedVariables false
set_option maxRecDepth 20000
attribute [local irreducible] OS LSr ODS CS YS
theorem beg_zero (w : W) : begOf w = 0 ↔ ¬ (w = kTemplate ∨ w = kJob) := by
  unfold begOf
  by_cases h : w = kTemplate ∨ w = kJob
  · rcases h with rfl | rfl <;> simp [tabOf, kTemplate, kJob]
  · simp only [h, not_false_eq_true, iff_true]
    cases ht : tabOf w with
    | none => rfl
    | some t =>
      have hw := tab_words ht
      simp only [List.mem_cons, List.not_mem_nil, or_false, Prod.mk.injEq] at hw
      simp only [not_or] at h
      rcases hw with x | x | x | x | x | x | x | x | x | x | x | x | x | x | x | x
      · exact absurd x.1 h.1
      · exact absurd x.1 h.2
      all_goals (rw [x.2])
def SmP (x y : Except Nat (Dc × W)) : Prop := match x, y with
  | .error a, .error b => a = b
  | .ok a, .ok b => a.1.er = b.1.er ∧ a.2 = b.2
  | _, _ => False
theorem ind_false : ind false = [] := rfl
theorem smp_line {d d' : Dc} (hd : d.er = d'.er) {bs : W} {i it : Bool} {begins : Nat} {w : W} {a : List W} {no : Nat} {r : List Ln} (hb : begOf w ≠ begins ↔ (it = true ∧ (w = kTemplate ∨ w = kJob))) :
    (∃ e, lineP d bs (ind i) begins w a = .error e ∧ putL chk joinW no d' bs ((w :: a, i, it) :: r) = .error e) ∨
      (∃ x y s, lineP d bs (ind i) begins w a = .ok (x, s) ∧ x.er = y.er ∧ putL chk joinW no d' bs ((w :: a, i, it) :: r) = putL chk joinW (no + 1) y s r) := by
  unfold lineP
  rw [putL]
  generalize ind i = I
  cases hj : joinW (w :: a) with
  | none => exact .inl ⟨40, rfl, rfl⟩
  | some t =>
    simp only
    by_cases h4 : 400 < I.length + t.length
    · have h5 : 400 < t.length + I.length := by omega
      exact .inl ⟨40, by rw [if_pos h4], by rw [if_pos h5]⟩
    · have h5 : ¬ 400 < t.length + I.length := by omega
      simp only [if_neg h4, if_neg h5]
      by_cases hit : it = true ∧ (w = kTemplate ∨ w = kJob)
      · have hbe := hb.2 hit
        exact .inl ⟨4, by rw [if_pos hbe], by rw [if_pos hit]⟩
      · have hbe : ¬ (begOf w ≠ begins) := fun h => hit (hb.1 h)
        simp only [if_neg hbe, if_neg hit]
        rcases line_same chk hd 0 (no : Int) w a with ⟨e, h1, h2⟩ | ⟨x, y, h1, h2, h3⟩
        · refine .inl ⟨e, ?_, ?_⟩
          · show (match line chk d 0 w a with | .error e => _ | .ok d' => _) = _
            rw [h1]
          · rw [h2]
        · refine .inr ⟨x, y, bs ++ (I ++ t ++ [10]), ?_, h3, ?_⟩
          · show (match line chk d 0 w a with | .error e => _ | .ok d' => _) = _
            rw [h1]
          · rw [h2]
theorem smp_items (i : Bool) : ∀ (l : List It) {d d' : Dc} {bs : W} {no : Nat}, d.er = d'.er → SmP (itemsP d bs (ind i) l) (putL chk joinW no d' bs (l.map fun x => x.ln i))
  | [], d, d', bs, no, hd => ⟨hd, rfl⟩
  | x :: r, d, d', bs, no, hd => by
    rw [itemsP, List.map_cons]
    have hb : begOf x.word ≠ 0 ↔ (true = true ∧ (x.word = kTemplate ∨ x.word = kJob)) := by
      rw [Ne, beg_zero, Classical.not_not]; simp
    rcases smp_line (bs := bs) (i := i) (a := x.args) (no := no) (r := r.map fun x => x.ln i) hd hb with ⟨e, h1, h2⟩ | ⟨y, z, s, h1, h3, h2⟩
    · rw [h1]
      show SmP _ (putL chk joinW no d' bs ((x.word :: x.args, i, true) :: _))
      rw [h2]; exact rfl
    · rw [h1]
      show SmP _ (putL chk joinW no d' bs ((x.word :: x.args, i, true) :: _))
      rw [h2]
      exact smp_items i r h3
theorem smp_sec {y : Se} {d d' : Dc} {bs : W} {no : Nat} (hd : d.er = d'.er) : SmP (secP d bs y) (if y.kind ≠ 1 ∧ y.kind ≠ 2 then .error 1 else putL chk joinW no d' bs y.lns) := by
  unfold secP
  by_cases h1 : y.kind = 1
  · have hw : wordOfK y.kind = kTemplate := by unfold wordOfK; rw [if_pos h1]
    rw [if_neg (by rw [hw]; decide), if_neg (by simp [h1]), hw]
    have e : y.lns = ([kTemplate, y.name], false, false) :: y.items.map fun x => x.ln true := by unfold Se.lns; rw [h1]; rfl
    have hb : begOf kTemplate ≠ y.kind.toNat ↔ (false = true ∧ (kTemplate = kTemplate ∨ kTemplate = kJob)) := by rw [h1]; simp [begOf, tabOf, kTemplate]
    rw [e]
    rcases smp_line (bs := bs) (i := false) (a := [y.name]) (no := no) (r := y.items.map fun x => x.ln true) hd hb with ⟨e, h2, h3⟩ | ⟨x, z, s, h2, h4, h3⟩
    · rw [ind_false] at h2; rw [h2, h3]; exact rfl
    · rw [ind_false] at h2; rw [h2, h3]; exact smp_items true y.items h4
  · by_cases h2 : y.kind = 2
    · have hw : wordOfK y.kind = kJob := by unfold wordOfK; rw [if_neg h1, if_pos h2]
      rw [if_neg (by rw [hw]; decide), if_neg (by simp [h2]), hw]
      have e : y.lns = ([kJob, y.name], false, false) :: y.items.map fun x => x.ln true := by unfold Se.lns; rw [h2]; rfl
      have hb : begOf kJob ≠ y.kind.toNat ↔ (false = true ∧ (kJob = kTemplate ∨ kJob = kJob)) := by rw [h2]; simp [begOf, tabOf, kJob, kTemplate]
      rw [e]
      rcases smp_line (bs := bs) (i := false) (a := [y.name]) (no := no) (r := y.items.map fun x => x.ln true) hd hb with ⟨e, h2, h3⟩ | ⟨x, z, s, h2, h4, h3⟩
      · rw [ind_false] at h2; rw [h2, h3]; exact rfl
      · rw [ind_false] at h2; rw [h2, h3]; exact smp_items true y.items h4
    · have hw : wordOfK y.kind = [] := by unfold wordOfK; rw [if_neg h1, if_neg h2]
      rw [if_pos hw, if_pos ⟨h1, h2⟩]; exact rfl
theorem smp_secs : ∀ (l : List Se) {d d' : Dc} {bs : W} {no : Nat}, d.er = d'.er → SmP (secsP d bs l) (printS chk joinW no d' bs l)
  | [], d, d', bs, no, hd => ⟨hd, rfl⟩
  | y :: r, d, d', bs, no, hd => by
    have h := smp_sec (y := y) (bs := bs) (no := no) hd
    rw [secsP, printS]
    by_cases hk : y.kind ≠ 1 ∧ y.kind ≠ 2
    · rw [if_pos hk] at h ⊢
      cases hs : secP d bs y with
      | error e => rw [hs] at h; exact h
      | ok p => rw [hs] at h; exact h.elim
    · rw [if_neg hk] at h ⊢
      cases hs : secP d bs y with
      | error e =>
        cases hp : putL chk joinW no d' bs y.lns with
        | error e' => rw [hs, hp] at h; exact h
        | ok p => rw [hs, hp] at h; exact h.elim
      | ok p =>
        cases hp : putL chk joinW no d' bs y.lns with
        | error e' => rw [hs, hp] at h; exact h.elim
        | ok q =>
          rw [hs, hp] at h
          obtain ⟨p1, p2⟩ := p
          obtain ⟨q1, q2⟩ := q
          obtain ⟨h1, h2⟩ := h
          simp only at h1 h2 ⊢
          subst h2
          exact smp_secs r h1
theorem print_same (D : Dc) : printP D = finP (printD chk joinW D) := by
  unfold printP printD
  have h := smp_items false D.head (d := ⟨[], []⟩) (d' := ⟨[], []⟩) (bs := []) (no := 1) rfl
  rw [ind_false] at h
  cases hs : itemsP ⟨[], []⟩ [] [] D.head with
  | error e =>
    cases hp : putL chk joinW 1 ⟨[], []⟩ [] (D.head.map fun x => x.ln false) with
    | error e' => rw [hs, hp] at h; rw [show e = e' from h]; rfl
    | ok p => rw [hs, hp] at h; exact h.elim
  | ok p =>
    cases hp : putL chk joinW 1 ⟨[], []⟩ [] (D.head.map fun x => x.ln false) with
    | error e' => rw [hs, hp] at h; exact h.elim
    | ok q =>
      rw [hs, hp] at h
      obtain ⟨p1, p2⟩ := p
      obtain ⟨q1, q2⟩ := q
      obtain ⟨h1, h2⟩ := h
      simp only at h1 h2 ⊢
      subst h2
      have h3 := smp_secs D.secs (bs := p2) (no := 1 + D.head.length) h1
      cases hs2 : secsP p1 p2 D.secs with
      | error e =>
        cases hp2 : printS chk joinW (1 + D.head.length) q1 p2 D.secs with
        | error e' => rw [hs2, hp2] at h3; rw [show e = e' from h3]
        | ok p => rw [hs2, hp2] at h3; exact h3.elim
      | ok p =>
        cases hp2 : printS chk joinW (1 + D.head.length) q1 p2 D.secs with
        | error e' => rw [hs2, hp2] at h3; exact h3.elim
        | ok q => rw [hs2, hp2] at h3; show Except.ok p.2 = Except.ok q.2; rw [h3.2]
end Go.Proofs.YtllcbjaajffaeaaGreatDoor
namespace Go.Am
set_option linter.unusedSimpArgs false
section
variable {P : Program} {a : Slots} {o : Oper} {L : RL}
theorem e_appendE {c : Call} {e : TypeId} {sz bts n r : Nat} {x : Value} {new : List Value} (hs : SV sz L x n new) (hn : 0 < n) (hone : allOne new = true) (ho : o.op = .call c) (hT : appT P c = some (e, sz, bts)) (ha : evs a c.args.toList = some [.slice (some ⟨r, 0, none⟩) 0 0, x])
    (hsm : n * bts ≤ 140737488355328) (hsm2 : n ≤ 140737488355328) :
    ∀ h, Has h L → ∃ r' h₁, opB P a o h = some (.val (.slice (some ⟨r', 0, none⟩) n openCap) h₁) ∧ Has h₁ ((r', .cells e new) :: L) := by
  intro h H
  have hn1 := hs.lenB
  have hf : firstB sz n x h = some new := hs.first H
  have hone' : (allOne new && (notText x || Nat.beq sz 1)) = true := by rw [hone, hs.notText]; rfl
  unfold appT at hT
  split at hT
  case h_2 => cases hT
  rename_i hcal
  split at hT
  case h_2 => cases hT
  rename_i st xt hst hxt
  split at hT
  case h_2 => cases hT
  rename_i e' xd hu1 hu2
  have hxd : (∀ k, xd = .int k → False) ∧ ∃ i, P.info? e' = some i ∧ zeroFits P e' = true ∧ e' = e ∧ i.size = sz ∧ i.bytes = bts := by
    split at hT
    · cases hT
    · rename_i hno
      split at hT
      case h_2 => cases hT
      rename_i i hi hz
      simp at hT
      obtain ⟨rfl, rfl, rfl⟩ := hT
      exact ⟨fun k hk => hno k hk, i, hi, hz, rfl, rfl, rfl⟩
  obtain ⟨hno, i, hi, hz, rfl, rfl, rfl⟩ := hxd
  obtain ⟨h₁, e₁⟩ := h.new_some (.cells e' ([] ++ new))
  refine ⟨h.next, h₁, ?_, H.new (by simpa using e₁)⟩
  have hs' : sizeB P e' = some i.size := by unfold sizeB; rw [hi]
  have b2 : Nat.ble n 140737488355328 = true := Nat.ble_eq_true_of_le (by omega)
  have hgrow : growB P h e' n [] new = some (.slice (some ⟨h.next, 0, none⟩) n openCap, h₁) := by
    simp only [growB, join_of, hz, b2, Bool.and_self, newCells, hs', e₁]
  simp only [opB, ho, ha, callOpB, hcal, appendB, hst, hxt, hu1, hu2]
  cases xd <;> first | exact (hno _ rfl).elim | skip
  all_goals
    simp only [hi, hn1, hf, hone']
    have hc : Nat.beq 0 openCap = false := beq_false (by decide)
    have b0 : Nat.ble n 0 = false := by
      cases hb : Nat.ble n 0 with
      | false => rfl
      | true => have := of_ble hb; omega
    have b1 : smallB n i.bytes = true := by unfold smallB; exact Nat.ble_eq_true_of_le (by simpa using hsm)
    have bf : firstB i.size 0 (.slice (some ⟨r, 0, none⟩) 0 0) h = some [] := by simp [firstB]
    simp only [Nat.zero_add, Nat.add_zero, hc, b0, bf, b1, hgrow, ret2]
theorem e_appendN {c : Call} {e : TypeId} {sz bts n r : Nat} {x : Value} {new : List Value} (hs : SV sz L x 0 new) (hn : n < openCap) (ho : o.op = .call c) (hT : appT P c = some (e, sz, bts)) (ha : evs a c.args.toList = some [.slice (some ⟨r, 0, none⟩) n n, x]) :
    ∀ h, Has h L → opB P a o h = some (.val (.slice (some ⟨r, 0, none⟩) n n) h) := by
  intro h H
  have hn1 := hs.lenB
  have hnew : new = [] := List.eq_nil_of_length_eq_zero (by have := hs.len; omega)
  subst hnew
  have hf : firstB sz 0 x h = some [] := hs.first H
  have hone' : (allOne [] && (notText x || Nat.beq sz 1)) = true := by rw [hs.notText]; rfl
  unfold appT at hT
  split at hT
  case h_2 => cases hT
  rename_i hcal
  split at hT
  case h_2 => cases hT
  rename_i st xt hst hxt
  split at hT
  case h_2 => cases hT
  rename_i e' xd hu1 hu2
  have hxd : (∀ k, xd = .int k → False) ∧ ∃ i, P.info? e' = some i ∧ zeroFits P e' = true ∧ e' = e ∧ i.size = sz ∧ i.bytes = bts := by
    split at hT
    · cases hT
    · rename_i hno
      split at hT
      case h_2 => cases hT
      rename_i i hi hz
      simp at hT
      obtain ⟨rfl, rfl, rfl⟩ := hT
      exact ⟨fun k hk => hno k hk, i, hi, hz, rfl, rfl, rfl⟩
  obtain ⟨hno, i, hi, hz, rfl, rfl, rfl⟩ := hxd
  simp only [opB, ho, ha, callOpB, hcal, appendB, hst, hxt, hu1, hu2]
  cases xd <;> first | exact (hno _ rfl).elim | skip
  all_goals
    simp only [hi, hn1, hf, hone']
    have hc : Nat.beq n openCap = false := beq_false (by omega)
    have b0 : Nat.ble (n + 0) n = true := Nat.ble_eq_true_of_le (by omega)
    simp only [hc, b0, beq_true rfl, ret2]
theorem e_appOwn {c : Call} {e : TypeId} {sz bts n r : Nat} {x : Value} {new : List Value} (hs : SV sz L x n new) (hone : allOne new = true) (ho : o.op = .call c) (hT : appT P c = some (e, sz, bts)) (ha : evs a c.args.toList = some [.slice (some ⟨r, 0, none⟩) 0 0, x]) (hsm : n * bts ≤ 140737488355328) (hsm2 : n ≤ 140737488355328) :
    ∀ h, Has h L → ∃ v h₁ L₁, opB P a o h = some (.val v h₁) ∧ Has h₁ L₁ ∧ ∃ X, L₁ = X ++ L ∧ ((n = 0 ∧ v = .slice (some ⟨r, 0, none⟩) 0 0 ∧ X = []) ∨ ∃ r', v = .slice (some ⟨r', 0, none⟩) n openCap ∧ X = [(r', .cells e new)]) := by
  intro h H
  rcases Nat.eq_zero_or_pos n with rfl | hn
  · exact ⟨_, h, L, e_appendN hs (by decide) ho hT ha h H, H, [], rfl, .inl ⟨rfl, rfl, rfl⟩⟩
  · obtain ⟨r', h₁, e₁, H₁⟩ := e_appendE hs hn hone ho hT ha hsm hsm2 h H
    exact ⟨_, h₁, _, e₁, H₁, [(r', .cells e new)], rfl, .inr ⟨r', rfl, rfl⟩⟩
end
end Go.Am
namespace Go.Proofs.YtllcbjaajffaeaaGreatDoor
set_option linter.unusedSimpArgs false
open Go.Am Go.Pd
set_option linter.unusedVariables false
set_option maxRecDepth 20000
set_option maxHeartbeats 8000000
attribute [local irreducible] OS LSr ODS CS YS
def ItsG (l : List It) : Prop := l.length * 48 ≤ 140737488355328 ∧ ∀ x, x ∈ l → x.args.length * 16 ≤ 140737488355328
def DocG (d : Dc) : Prop := ItsG d.head ∧ d.secs.length * 56 ≤ 140737488355328 ∧ ∀ y, y ∈ d.secs → ItsG y.items
section
variable {F L M : RL} {d : Dc} {v : Value}
theorem items12_ct {l : List It} {lv : Value} {cs : List Value} (hl : SV 3 M lv l.length cs) (hI : ItsA M l cs) (hM : ∀ p, p ∈ M → p ∈ F) (hn : ItsG l) : CS Tryz.prog 45 [lv] F fun v L' => ∃ cs' HY Y, L' = HY ++ (Y ++ F) ∧ GV tI 3 [] v l.length cs' HY ∧ ItsR Y l cs' := by
  obtain ⟨lA, lc, rfl⟩ := hl.form
  obtain ⟨hn1, hn2⟩ := hn
  refine CS.mk (fn := Tryz.f45) rfl rfl rfl rfl ?_
  refine yG ?_
  refine LS.loopJ [0, 3, 4] (fun q a L' => ∃ (j : Nat) (out : Value) (cs' : List Value) (HY Y : RL), q = l.length - j ∧ j ≤ l.length ∧ GV tI 3 [] out j cs' HY ∧ L' = HY ++ (Y ++ F) ∧ ItsR Y (l.take j) cs' ∧ a = [.slice lA l.length lc, .chan none, .chan none, out, .int .i64 (j : Nat), .chan none, .chan none, .chan none, .chan none, .chan none, .chan none, .chan none, .chan none, .chan none, .chan none, .chan none, .chan none, .chan none, .chan none, .chan none, .chan none, .chan none, .chan none, .chan none, .chan none, .chan none, .chan none, .chan none, .chan none, .chan none, .chan none, .chan none, .chan none]) (n := l.length) rfl ⟨0, _, [], [], [], by omega, by omega, GV.nil, rfl, rfl, rfl⟩ ?_
  rintro q a L' ⟨j, out, cs', HY, Y, rfl, hj, hg, rfl, hA, rfl⟩
  by_cases hjn : j < l.length
  · have hb : (!ileB ((l.length : Nat) : Int) (j : Nat)) = true := by rw [ileB_eq]; simp; omega
    have hxj : l[j]? = some l[j] := List.getElem?_eq_getElem hjn
    have hsn : l.take (j + 1) = l.take j ++ [l[j]] := Go.Pd.take_one hxj
    have hnx := hn2 _ (List.getElem_mem hjn)
    generalize l[j] = x at hxj hsn hnx
    obtain ⟨xv, hcut, hxv⟩ := hI.at hxj
    obtain ⟨xA, xc, rfl⟩ := hxv.form
    have mF : ∀ p, p ∈ M → p ∈ HY ++ (Y ++ F) := fun p hp => by simp [hM p hp]
    have hlL : SV 3 (HY ++ (Y ++ F)) (.slice lA l.length lc) l.length cs := hl.up mF
    have hxL := hxv.up mF
    have hlen2 := hA.len
    obtain ⟨oA, oc, rfl⟩ := hg.form
    refine yG ?_
    repeat refine LS.seq ?_
    refine LS.drawn noGo mixed [(0, false), (1, false), (2, false), (3, false), (4, false), (5, false), (6, false), (7, false), (8, false), (9, false), (10, false), (12, false), (13, false), (14, false), (15, false), (16, false), (11, true), (17, true), (18, false), (19, true), (20, true), (21, false)] rfl rfl (by kernel_rfl) ?_
    refine yG ?_
    refine ODS.at (j := j) hlL hjn rfl rfl rfl rfl rfl rfl rfl (fun r0 o0 row0 cs0 m0 c0 g0 k0 => ?_)
    refine ⟨_, rfl, ?_⟩
    refine yG ?_
    refine ODS.read rfl rfl (e_loadm m0 c0 rfl rfl (part_one rfl (g0 0 (.int .i64 x.no) (by decide) (cut_get hcut (j := 0) rfl)))) rfl ?_
    refine yG ?_
    refine ODS.at (j := j) hlL hjn rfl rfl rfl rfl rfl rfl rfl (fun r1 o1 row1 cs1 m1 c1 g1 k1 => ?_)
    refine ⟨_, rfl, ?_⟩
    refine yG ?_
    refine ODS.read rfl rfl (e_loadm m1 c1 rfl rfl (part_one rfl (g1 1 (str x.word) (by decide) (cut_get hcut (j := 1) rfl)))) rfl ?_
    refine yG ?_
    refine ODS.at (j := j) hlL hjn rfl rfl rfl rfl rfl rfl rfl (fun r2 o2 row2 cs2 m2 c2 g2 k2 => ?_)
    refine ⟨_, rfl, ?_⟩
    refine yG ?_
    refine ODS.read rfl rfl (e_loadm m2 c2 rfl rfl (part_one rfl (g2 2 (.slice xA x.args.length xc) (by decide) (cut_get hcut (j := 2) rfl)))) rfl ?_
    refine ODS.fresh rfl rfl (e_new (fun _ => rfl) rfl) (fun _ => rfl) (fun _ => Keep.cons rfl (e_loadm (List.mem_cons_of_mem _ m2) c2 rfl rfl (part_one rfl (g2 2 (.slice xA x.args.length xc) (by decide) (cut_get hcut (j := 2) rfl)))) (Keep.cons rfl (e_loadm (List.mem_cons_of_mem _ m1) c1 rfl rfl (part_one rfl (g1 1 (str x.word) (by decide) (cut_get hcut (j := 1) rfl)))) (Keep.cons rfl (e_loadm (List.mem_cons_of_mem _ m0) c0 rfl rfl (part_one rfl (g0 0 (.int .i64 x.no) (by decide) (cut_get hcut (j := 0) rfl)))) Keep.nil))) (fun re => ?_)
    refine ODS.turns rfl rfl (e_appOwn (sz := 1) (bts := 16) (hxL.up fun p hp => List.mem_cons_of_mem _ hp) (strs_one _) rfl rfl rfl (by omega) (by omega)) ?_
    rintro w L₁ ⟨X, rfl, hX⟩
    refine ⟨_, rfl, Keep.gone rfl (Keep.cons rfl (e_loadm (List.mem_append_right _ (List.mem_cons_of_mem _ m1)) c1 rfl rfl (part_one rfl (g1 1 (str x.word) (by decide) (cut_get hcut (j := 1) rfl)))) (Keep.cons rfl (e_loadm (List.mem_append_right _ (List.mem_cons_of_mem _ m0)) c0 rfl rfl (part_one rfl (g0 0 (.int .i64 x.no) (by decide) (cut_get hcut (j := 0) rfl)))) Keep.nil)), ?_⟩
    have hW : Wd (X ++ ((re, ARow.cells 9 []) :: Y)) w x.args := by
      rcases hX with ⟨h0, rfl, rfl⟩ | ⟨r', rfl, rfl⟩
      · have hxa : x.args = [] := List.eq_nil_of_length_eq_zero h0
        rw [hxa]
        exact .inr ⟨re, 0, 0, ARow.cells 9 [], [], rfl, by simp, rfl, rfl, .inr ⟨rfl, by decide⟩⟩
      · exact .inr ⟨r', 0, openCap, ARow.cells 9 (strs x.args), _, rfl, by simp, rfl, cut_all (by simp [strs]), .inl ⟨rfl, rfl, allS_strs _⟩⟩
    obtain ⟨wA, wc, rfl⟩ := hW.form
    refine ODS.sub (Sub.sums (A := HY ++ (X ++ ((re, ARow.cells 9 []) :: (Y ++ F)))) fun f => by simp <;> omega) ?_
    refine yG ?_
    refine ODS.fresh rfl rfl (e_new (fun _ => rfl) rfl) (fun _ => rfl) (fun _ => Keep.gone rfl (Keep.gone rfl (Keep.gone rfl Keep.nil))) (fun rt => ?_)
    refine ODS.fresh rfl rfl (e_appendGV [(rt, _)] (e := tI) (sz := 3) (bts := 48) (m := 1) (hg.appendR (X ++ ((re, ARow.cells 9 []) :: (Y ++ F)))) (SV.row (sz := 3) (n := 1) (List.mem_cons_self ..) rfl) (by omega) rfl rfl rfl rfl (by omega) (by omega)) (fun _ => rfl) (fun _ => Keep.gone rfl (Keep.gone rfl (Keep.gone rfl Keep.nil))) (fun r4 => ?_)
    refine ODS.sub (Sub.trans (Sub.sums (A := [(r4, .cells tI (cs' ++ [.int .i64 x.no, str x.word, .slice wA x.args.length wc]))] ++ ((X ++ ((re, ARow.cells 9 []) :: Y)) ++ F)) fun f => by simp <;> omega) (Sub.drop 1 rfl)) ?_
    refine yG ?_
    exact ⟨l.length - (j + 1), by omega, j + 1, _, _, _, X ++ ((re, ARow.cells 9 []) :: Y), rfl, by omega, .of (by simp [hlen2, List.length_take]; omega), rfl, by rw [hsn]; exact (hA.mono fun p hp => by simp [hp]).snoc hW, rfl⟩
  · have hb : (!ileB ((l.length : Nat) : Int) (j : Nat)) = false := by rw [ileB_eq]; simp; omega
    rw [List.take_of_length_le (by omega)] at hA
    obtain rfl : j = l.length := by omega
    refine yG ?_
    refine LS.exit ?_
    refine yG ?_
    exact ⟨cs', HY, Y, rfl, hg, hA⟩
theorem given_ct (hV : DocA M v d) (hM : ∀ p, p ∈ M → p ∈ F) (hn : DocG d) : CS Tryz.prog 17 [v] F fun u L' => ∃ Z, L' = Z ++ F ∧ DocV Z u d := by
  suffices h : CS Tryz.prog 17 [v] F fun u L' => ∃ L₁, Sub L₁ L' ∧ ∃ Z, L₁ = Z ++ F ∧ DocV Z u d from h.less fun v L' h => h
  obtain ⟨hv, sv, hcs, scs, rfl, hh, hI, hS, hSR⟩ := hV
  obtain ⟨hA, hc, rfl⟩ := hh.form
  obtain ⟨sA, sc, rfl⟩ := hS.form
  obtain ⟨hn1, hn2, hn3⟩ := hn
  refine CS.mk (fn := Tryz.f17) rfl rfl rfl rfl ?_
  refine yG ?_
  refine OS.fresh rfl (e_new (fun _ => rfl) rfl) (fun _ => rfl) (fun r1 => ?_)
  show OS _ _ _ _ ((r1, ARow.cells tDd [.slice hA d.head.length hc, .slice sA d.secs.length sc]) :: _) _
  refine yG ?_
  refine OS.fresh rfl (e_new (fun _ => rfl) rfl) (fun _ => rfl) (fun r2 => ?_)
  show OS _ _ _ _ ((r2, ARow.cells tD [.slice none 0 0, .slice none 0 0]) :: _) _
  refine yG ?_
  refine OS.call noGo rfl (fun _ => rfl) ((items12_ct hh hI (fun p hp => List.mem_cons_of_mem _ (List.mem_cons_of_mem _ (hM p hp))) hn1).mono ?_)
  rintro u L' ⟨hcs', HY, Y0, rfl, hgH, hI'⟩
  obtain ⟨hA', hc', rfl⟩ := hgH.form
  refine ⟨_, rfl, ?_⟩
  refine yG ?_
  refine OS.fresh rfl (e_new (fun _ => rfl) rfl) (fun _ => rfl) (fun r3 => ?_)
  show OS _ _ _ _ ((r3, ARow.cells tD [.slice none 0 0, .slice none 0 0]) :: _) _
  refine OS.sub (Sub.sums (A := (r3, ARow.cells tD [.slice none 0 0, .slice none 0 0]) :: (r2, ARow.cells tD [.slice none 0 0, .slice none 0 0]) :: (r1, ARow.cells tDd [.slice hA d.head.length hc, .slice sA d.secs.length sc]) :: (HY ++ (Y0 ++ F))) fun f => by simp <;> omega) ?_
  refine yG ?_
  refine LS.loopJ [1, 2, 3, 4] (fun q a L' => ∃ (j : Nat) (bA : Option Addr) (bn bc : Nat) (scs' : List Value) (SY Z : RL), q = d.secs.length - j ∧ j ≤ d.secs.length ∧ GV tS 4 [] (.slice bA bn bc) j scs' SY ∧ SecsR Z (d.secs.take j) scs' ∧
      L' = (r3, ARow.cells tD [.slice hA' d.head.length hc', .slice bA bn bc]) :: (r2, ARow.cells tD [.slice none 0 0, .slice none 0 0]) :: (r1, ARow.cells tDd [.slice hA d.head.length hc, .slice sA d.secs.length sc]) :: (SY ++ (Z ++ (HY ++ (Y0 ++ F)))) ∧
      a = [.chan none, ptr r1, ptr r2, ptr r3, .int .i64 (j : Nat), .chan none, .chan none, .chan none, .chan none, .chan none, .chan none, .chan none, .chan none, .chan none, .chan none, .chan none, .chan none, .chan none, .chan none, .chan none, .chan none, .chan none, .chan none, .chan none, .chan none, .chan none, .chan none, .chan none, .chan none, .chan none, .chan none, .chan none, .chan none, .chan none, .chan none, .chan none, .chan none, .chan none]) (n := d.secs.length) rfl ⟨0, none, 0, 0, [], [], [], by omega, by omega, .nil, rfl, rfl, rfl⟩ ?_
  rintro q a L' ⟨j, bA, bn, bc, scs', SY, Z, rfl, hj, hgS, hSA, rfl, rfl⟩
  by_cases hjn : j < d.secs.length
  · have hb : (!ileB ((d.secs.length : Nat) : Int) (j : Nat)) = true := by rw [ileB_eq]; simp; omega
    have hxj : d.secs[j]? = some d.secs[j] := List.getElem?_eq_getElem hjn
    have hsn : d.secs.take (j + 1) = d.secs.take j ++ [d.secs[j]] := Go.Pd.take_one hxj
    have hn3x := hn3 _ (List.getElem_mem hjn)
    generalize d.secs[j] = x at hxj hsn hn3x
    obtain ⟨iv, ics, hcut, hiv, hiI⟩ := hSR.at hxj
    obtain ⟨iA, ic, rfl⟩ := hiv.form
    have hSL := hS.up (G := (r3, ARow.cells tD [.slice hA' d.head.length hc', .slice bA bn bc]) :: (r2, ARow.cells tD [.slice none 0 0, .slice none 0 0]) :: (r1, ARow.cells tDd [.slice hA d.head.length hc, .slice sA d.secs.length sc]) :: (SY ++ (Z ++ (HY ++ (Y0 ++ F))))) fun p hp => by simp [hM p hp]
    have hlen := hSA.len
    refine yG ?_
    refine OS.at (j := j) hSL hjn rfl rfl rfl rfl rfl rfl (fun r0 o0 row0 cs0 m0 c0 g0 k0 => ?_)
    refine ⟨_, rfl, ?_⟩
    refine yG ?_
    refine OS.read rfl (e_loadm m0 c0 rfl rfl (part_agg rfl rfl (k0 _ hcut))) rfl ?_
    refine yG ?_
    refine OS.fresh rfl (e_new (fun _ => rfl) rfl) (fun _ => rfl) (fun r5 => ?_)
    show OS _ _ _ _ ((r5, ARow.cells tZ [.int .i64 0, .int .u8 0, str [], .slice none 0 0]) :: _) _
    refine yG ?_
    repeat refine LS.seq ?_
    refine LS.drawn noGo mixed [(0, false), (1, false), (2, false), (3, false), (4, false), (5, false), (6, false), (7, false), (8, false), (9, false), (10, true), (11, false), (12, true), (13, true), (14, false), (15, true)] rfl rfl (by kernel_rfl) ?_
    refine yG ?_
    refine ODS.call rfl rfl (fun _ => rfl) ((items12_ct hiv hiI (fun p hp => by simp [hM p hp]) hn3x).mono ?_)
    rintro u L' ⟨jcs, IY, Y1, rfl, hgj, hjI⟩
    obtain ⟨jA, jc, rfl⟩ := hgj.form
    refine ⟨_, rfl, ?_, ?_⟩
    · exact Keep.gone rfl (Keep.cons rfl (e_loadm (r := r5) (List.mem_append_right _ (List.mem_append_right _ (List.mem_cons_self ..))) rfl rfl rfl rfl) (Keep.cons rfl (e_loadm (r := r5) (List.mem_append_right _ (List.mem_append_right _ (List.mem_cons_self ..))) rfl rfl rfl rfl) (Keep.cons rfl (e_loadm (r := r5) (List.mem_append_right _ (List.mem_append_right _ (List.mem_cons_self ..))) rfl rfl rfl rfl) (Keep.cons rfl (e_loadm (r := r3) (List.mem_append_right _ (List.mem_append_right _ (List.mem_cons_of_mem _ (List.mem_cons_self ..)))) rfl rfl rfl rfl) Keep.nil))))
    refine ODS.sub (Sub.sums (A := (r3, ARow.cells tD [.slice hA' d.head.length hc', .slice bA bn bc]) :: (r5, ARow.cells tZ [.int .i64 x.no, .int .u8 (x.kind.toNat : Nat), str x.name, .slice iA x.items.length ic]) :: (r2, ARow.cells tD [.slice none 0 0, .slice none 0 0]) :: (r1, ARow.cells tDd [.slice hA d.head.length hc, .slice sA d.secs.length sc]) :: (SY ++ (IY ++ (Y1 ++ (Z ++ (HY ++ (Y0 ++ F))))))) fun f => by simp [secC] <;> omega) ?_
    refine yG ?_
    refine ODS.fresh rfl rfl (e_new (fun _ => rfl) rfl) (fun _ => rfl) (fun _ => Keep.gone rfl (Keep.gone rfl (Keep.gone rfl (Keep.gone rfl (Keep.cons rfl (e_load 1 rfl rfl rfl rfl rfl) Keep.nil))))) (fun rt => ?_)
    refine ODS.fresh rfl rfl (e_appendGV [(rt, _), (r3, _), (r5, _), (r2, _), (r1, _)] (e := tS) (sz := 4) (bts := 56) (m := 1) (hgS.appendR (IY ++ (Y1 ++ (Z ++ (HY ++ (Y0 ++ F)))))) (SV.row (sz := 4) (n := 1) (List.mem_cons_self ..) rfl) (by omega) rfl rfl rfl rfl (by omega) (by omega)) (fun _ => rfl) (fun _ => Keep.gone rfl (Keep.gone rfl (Keep.gone rfl (Keep.gone rfl (Keep.gone rfl Keep.nil))))) (fun r6 => ?_)
    refine yG ?_
    refine ODS.write rfl rfl (e_store 2 rfl rfl rfl rfl rfl rfl rfl rfl) rfl (Keep.gone rfl (Keep.gone rfl (Keep.gone rfl (Keep.gone rfl (Keep.gone rfl Keep.nil))))) ?_
    refine ODS.sub (Sub.trans (Sub.sums (A := (r3, ARow.cells tD [.slice hA' d.head.length hc', .slice (some ⟨r6, 0, none⟩) (j + 1) openCap]) :: (r2, ARow.cells tD [.slice none 0 0, .slice none 0 0]) :: (r1, ARow.cells tDd [.slice hA d.head.length hc, .slice sA d.secs.length sc]) :: ([(r6, .cells tS (scs' ++ secC x.no x.kind x.name (.slice jA x.items.length jc)))] ++ ((IY ++ (Y1 ++ Z)) ++ (HY ++ (Y0 ++ F))))) fun f => by simp [secC] <;> omega) (Sub.trans (Sub.drop 2 rfl) (Sub.drop 1 rfl))) ?_
    refine yG ?_
    exact ⟨d.secs.length - (j + 1), by omega, j + 1, _, _, _, _, _, IY ++ (Y1 ++ Z), rfl, by omega, .of (by simp [hlen, List.length_take]; omega), by rw [hsn]; exact (hSA.mono fun p hp => by simp [hp]).snoc ⟨hgj.sv.up fun p hp => by simp [hp], hjI.mono fun p hp => by simp [hp]⟩, rfl, rfl⟩
  · have hb : (!ileB ((d.secs.length : Nat) : Int) (j : Nat)) = false := by rw [ileB_eq]; simp; omega
    rw [List.take_of_length_le (by omega)] at hSA
    obtain rfl : j = d.secs.length := by omega
    refine yG ?_
    refine LS.exit ?_
    refine yG ?_
    refine LS.ret ⟨_, res_cell 1 rfl rfl rfl rfl, ?_⟩
    exact ⟨SY ++ (Z ++ (HY ++ (Y0 ++ F))), Sub.drops 3 rfl, SY ++ (Z ++ (HY ++ Y0)), by simp, _, _, hcs', scs', rfl, hgH.sv.up fun p hp => by simp [hp], hI'.mono fun p hp => by simp [hp], hgS.sv.up fun p hp => by simp [hp], hSA.mono fun p hp => by simp [hp]⟩
end
end Go.Proofs.YtllcbjaajffaeaaGreatDoor
namespace Go.Am
section
variable {P : Program} {a : Slots} {o : Oper} {t z : TypeId} {x y : Operand} {k : IntKind}
theorem e_addW {m n : Int} (ho : o.op = .binOp .add t x y z) (hx : aev a x = some (.int k m)) (hy : aev a y = some (.int k n)) : ∀ h, opB P a o h = some (.val (.int k (wrapB k (m + n))) h) := by
  intro h
  simp only [opB, ho, hx, hy, eqOk, binB, if_true, ret]
end
end Go.Am
namespace Go.Proofs.YtllcbjaajffaeaaGreatDoor
open Go.Am Go.Pd
set_option linter.unusedVariables false
set_option maxRecDepth 20000
set_option maxHeartbeats 8000000
attribute [local irreducible] OS LSr ODS CS YS
section
variable {F L M : RL} {d : Dc} {v : Value}
theorem lt_cases (n j : Nat) (hn : j ≤ n) : (j < n ∧ j < 300 ∧ (!ileB ((n : Nat) : Int) (j : Nat)) = true ∧ (!ileB 300 ((j : Nat) : Int)) = true) ∨ (j < n ∧ (!ileB ((n : Nat) : Int) (j : Nat)) = true ∧ (!ileB 300 ((j : Nat) : Int)) = false) ∨ (!ileB ((n : Nat) : Int) (j : Nat)) = false := by
  by_cases h : j < n
  · by_cases h2 : j < 300
    · exact .inl ⟨h, h2, by rw [ileB_eq]; simp; omega, by rw [ileB_eq]; simp; omega⟩
    · exact .inr (.inl ⟨h, by rw [ileB_eq]; simp; omega, by rw [ileB_eq]; simp; omega⟩)
  · exact .inr (.inr (by rw [ileB_eq]; simp; omega))
theorem weight12_ct {l : List It} {lv : Value} {cs : List Value} (hl : SV 3 M lv l.length cs) (hI : ItsA M l cs) (hM : ∀ p, p ∈ M → p ∈ F) (hn : l.length ≤ 9000000000000000) (hx : ∀ x, x ∈ l → x.args.length ≤ 9000000000000000) : CS Tryz.prog 44 [lv] F fun v L' => (∃ n : Int, v = .int .i64 n) ∧ L' = F := by
  obtain ⟨lA, lc, rfl⟩ := hl.form
  have hlF := hl.up hM
  refine CS.mk (fn := Tryz.f44) rfl rfl rfl rfl ?_
  refine yG ?_
  refine LS.loopJ [0, 3, 4] (fun q a L' => ∃ (j : Nat) (n : Int), q = l.length - j ∧ j ≤ l.length ∧ L' = F ∧ a = [.slice lA l.length lc, .chan none, .chan none, .int .i64 n, .int .i64 (j : Nat), .chan none, .chan none, .chan none, .chan none, .chan none, .chan none, .chan none, .chan none, .chan none, .chan none, .chan none, .chan none, .chan none, .chan none, .chan none, .chan none, .chan none, .chan none, .chan none, .chan none, .chan none, .chan none, .chan none, .chan none, .chan none, .chan none, .chan none, .chan none, .chan none, .chan none, .chan none, .chan none, .chan none, .chan none, .chan none, .chan none, .chan none, .chan none, .chan none, .chan none, .chan none, .chan none, .chan none, .chan none, .chan none, .chan none, .chan none, .chan none, .chan none, .chan none, .chan none, .chan none, .chan none, .chan none]) (n := l.length) rfl ⟨0, _, by omega, by omega, rfl, rfl⟩ ?_
  rintro q a L' ⟨j, n, rfl, hj, rfl, rfl⟩
  rcases lt_cases l.length j hj with ⟨hjn, h3, b1, b2⟩ | ⟨hjn, b1, b2⟩ | b1
  · have hxj : l[j]? = some l[j] := List.getElem?_eq_getElem hjn
    have hxl := hx _ (List.getElem_mem hjn)
    generalize l[j] = x at hxj hxl
    obtain ⟨xv, hcut, hxv⟩ := hI.at hxj
    obtain ⟨xA, xc, rfl⟩ := hxv.form
    have hxF := hxv.up hM
    refine yG ?_
    repeat refine LS.seq ?_
    refine LS.drawn noGo mixed [(0, false), (1, false), (2, false), (3, false), (4, false), (5, false), (6, false), (7, false), (8, false), (9, false), (10, false), (11, false), (12, false), (13, false), (14, false), (15, false)] rfl rfl (by kernel_rfl) ?_
    refine yG ?_
    refine ODS.at (j := j) hlF hjn rfl rfl rfl rfl rfl rfl rfl (fun r0 o0 row0 cs0 m0 c0 g0 k0 => ?_)
    refine ⟨_, rfl, ?_⟩
    refine yG ?_
    refine ODS.read rfl rfl (e_loadm m0 c0 rfl rfl (part_one rfl (g0 1 (str x.word) (by decide) (cut_get hcut (j := 1) rfl)))) rfl ?_
    refine yG ?_
    refine ODS.pure rfl rfl (e_addW rfl rfl rfl) rfl ?_
    refine yG ?_
    refine ODS.at (j := j) hlF hjn rfl rfl rfl rfl rfl rfl rfl (fun r1 o1 row1 cs1 m1 c1 g1 k1 => ?_)
    refine ⟨_, rfl, ?_⟩
    refine yG ?_
    refine ODS.read rfl rfl (e_loadm m1 c1 rfl rfl (part_one rfl (g1 2 (.slice xA x.args.length xc) (by decide) (cut_get hcut (j := 2) rfl)))) rfl ?_
    refine yG ?_
    refine ODS.pure rfl rfl (e_addW rfl rfl rfl) rfl ?_
    refine yG ?_
    generalize wrapB .i64 _ = n2
    refine LS.loopJ [0, 3, 4, 5] (fun q a M => ∃ (k : Nat) (n : Int), q = x.args.length - k ∧ k ≤ x.args.length ∧ M = L' ∧ a = [.slice lA l.length lc, .chan none, .chan none, .int .i64 n, .int .i64 (j : Nat), .int .i64 (k : Nat), .chan none, .chan none, .chan none, .chan none, .chan none, .chan none, .chan none, .chan none, .chan none, .chan none, .chan none, .chan none, .chan none, .chan none, .chan none, .chan none, .chan none, .chan none, .chan none, .chan none, .chan none, .chan none, .chan none, .chan none, .chan none, .chan none, .chan none, .chan none, .chan none, .chan none, .chan none, .chan none, .chan none, .chan none, .chan none, .chan none, .chan none, .chan none, .chan none, .chan none, .chan none, .chan none, .chan none, .chan none, .chan none, .chan none, .chan none, .chan none, .chan none, .chan none, .chan none, .chan none, .chan none]) (n := x.args.length) rfl ⟨0, _, by omega, by omega, rfl, rfl⟩ ?_
    rintro q a M ⟨k, n, rfl, hk, rfl, rfl⟩
    rcases lt_cases x.args.length k hk with ⟨hkn, h4, d1, d2⟩ | ⟨hkn, d1, d2⟩ | d1
    · have hget : (strs x.args)[k]? = some (str (x.args[k]'hkn)) := strs_at hkn
      generalize x.args[k] = y at hget
      refine yG ?_
      refine OS.at (j := j) hlF hjn rfl rfl rfl rfl rfl rfl (fun r2 o2 row2 cs2 m2 c2 g2 k2 => ?_)
      refine ⟨_, rfl, ?_⟩
      refine yG ?_
      refine OS.read rfl (e_loadm m2 c2 rfl rfl (part_one rfl (g2 2 (.slice xA x.args.length xc) (by decide) (cut_get hcut (j := 2) rfl)))) rfl ?_
      refine yG ?_
      refine OS.at (j := j) hlF hjn rfl rfl rfl rfl rfl rfl (fun r3 o3 row3 cs3 m3 c3 g3 k3 => ?_)
      refine ⟨_, rfl, ?_⟩
      refine yG ?_
      refine OS.read rfl (e_loadm m3 c3 rfl rfl (part_one rfl (g3 2 (.slice xA x.args.length xc) (by decide) (cut_get hcut (j := 2) rfl)))) rfl ?_
      refine yG ?_
      refine OS.at1 (j := k) (hxF) (hget) rfl rfl rfl rfl rfl rfl (fun ra0 oa0 rowa0 csa0 ma0 ca0 ga0 => ⟨_, rfl, ?_⟩)
      refine OS.read rfl (e_loadm ma0 ca0 rfl rfl (part_one rfl ga0)) rfl ?_
      refine yG ?_
      refine OS.pure rfl (e_addW rfl rfl rfl) rfl ?_
      refine yG ?_
      exact ⟨x.args.length - (k + 1), by omega, k + 1, _, rfl, by omega, rfl, rfl⟩
    all_goals
      refine yG ?_
      refine OS.at (j := j) hlF hjn rfl rfl rfl rfl rfl rfl (fun r2 o2 row2 cs2 m2 c2 g2 k2 => ?_)
      refine ⟨_, rfl, ?_⟩
      refine yG ?_
      refine OS.read rfl (e_loadm m2 c2 rfl rfl (part_one rfl (g2 2 (.slice xA x.args.length xc) (by decide) (cut_get hcut (j := 2) rfl)))) rfl ?_
      refine yG ?_
      refine LS.exit ?_
      refine yG ?_
      exact ⟨l.length - (j + 1), by omega, j + 1, _, rfl, by omega, rfl, rfl⟩
  all_goals
    refine yG ?_
    refine LS.exit ?_
    refine yG ?_
    exact ⟨⟨_, rfl⟩, rfl⟩
theorem large12_ct (hV : DocA M v d) (hM : ∀ p, p ∈ M → p ∈ F) (hn : DocN d) : CS Tryz.prog 16 [v] F fun u L' => (∃ b, u = .bool b) ∧ L' = F := by
  suffices h : CS Tryz.prog 16 [v] F fun u L' => (∃ b, u = .bool b) ∧ Sub F L' from h.less fun v L' ⟨h1, h2⟩ => ⟨F, h2, h1, rfl⟩
  obtain ⟨hv, sv, hcs, scs, rfl, hh, hI, hS, hSR⟩ := hV
  obtain ⟨hA, hc, rfl⟩ := hh.form
  obtain ⟨sA, sc, rfl⟩ := hS.form
  obtain ⟨hn1, hn2, hn3⟩ := hn
  have mM : ∀ x, ∀ p, p ∈ M → p ∈ x :: F := fun x p hp => List.mem_cons_of_mem _ (hM p hp)
  refine CS.mk (fn := Tryz.f16) rfl rfl rfl rfl ?_
  refine yG ?_
  refine OS.fresh rfl (e_new (fun _ => rfl) rfl) (fun _ => rfl) (fun r1 => ?_)
  show OS _ _ _ _ ((r1, ARow.cells tDd [.slice hA d.head.length hc, .slice sA d.secs.length sc]) :: _) _
  refine yG ?_
  repeat refine LS.seq ?_
  refine LS.drawn noGo mixed [(0, false), (1, false), (3, false), (4, false), (5, false), (2, true), (6, false), (7, false)] rfl rfl (by kernel_rfl) ?_
  refine yG ?_
  refine ODS.call rfl rfl (fun _ => rfl) ((weight12_ct hh hI (mM _) hn1.1 hn1.2).mono ?_)
  rintro u L' ⟨⟨n, rfl⟩, rfl⟩
  refine ⟨_, rfl, ?_, ?_⟩
  · exact Keep.cons rfl (e_load 0 rfl rfl rfl rfl rfl) (Keep.gone rfl Keep.nil)
  refine yG ?_
  refine ODS.pure rfl rfl (e_addW rfl rfl rfl) rfl ?_
  refine yG ?_
  generalize wrapB .i64 _ = n2
  refine LS.loopJ [1, 3, 4] (fun q a L' => ∃ (j : Nat) (n : Int), q = d.secs.length - j ∧ j ≤ d.secs.length ∧ L' = (r1, ARow.cells tDd [.slice hA d.head.length hc, .slice sA d.secs.length sc]) :: F ∧ a = [.chan none, ptr r1, .chan none, .int .i64 n, .int .i64 (j : Nat), .chan none, .chan none, .chan none, .chan none, .chan none, .chan none, .chan none, .chan none, .chan none, .chan none, .chan none, .chan none, .chan none, .chan none, .chan none, .chan none, .chan none, .chan none, .chan none, .chan none, .chan none, .chan none, .chan none, .chan none, .chan none, .chan none, .chan none, .chan none, .chan none, .chan none, .chan none, .chan none, .chan none, .chan none, .chan none, .chan none, .chan none]) (n := d.secs.length) rfl ⟨0, _, by omega, by omega, rfl, rfl⟩ ?_
  rintro q a L' ⟨j, n, rfl, hj, rfl, rfl⟩
  rcases lt_cases d.secs.length j hj with ⟨hjn, h3, b1, b2⟩ | ⟨hjn, b1, b2⟩ | b1
  · have hxj : d.secs[j]? = some d.secs[j] := List.getElem?_eq_getElem hjn
    have hxl := hn3 _ (List.getElem_mem hjn)
    generalize d.secs[j] = x at hxj hxl
    obtain ⟨iv, ics, hcut, hiv, hiI⟩ := hSR.at hxj
    have hSL := fun u => hS.up (mM u)
    refine yG ?_
    repeat refine LS.seq ?_
    refine LS.drawn noGo mixed [(0, false), (1, false), (2, false), (3, false), (4, false), (5, false), (6, false), (9, false), (10, false), (11, false), (12, false), (13, false), (14, false), (15, false), (7, true), (8, false), (16, false), (17, false)] rfl rfl (by kernel_rfl) ?_
    refine yG ?_
    refine ODS.at (j := j) (hSL _) hjn rfl rfl rfl rfl rfl rfl rfl (fun r2 o2 row2 cs2 m2 c2 g2 k2 => ?_)
    refine ⟨_, rfl, ?_⟩
    refine yG ?_
    refine ODS.read rfl rfl (e_loadm m2 c2 rfl rfl (part_one rfl (g2 3 iv (by decide) (cut_get hcut (j := 3) rfl)))) rfl ?_
    refine yG ?_
    refine ODS.at (j := j) (hSL _) hjn rfl rfl rfl rfl rfl rfl rfl (fun r3 o3 row3 cs3 m3 c3 g3 k3 => ?_)
    refine ⟨_, rfl, ?_⟩
    refine yG ?_
    refine ODS.read rfl rfl (e_loadm m3 c3 rfl rfl (part_one rfl (g3 2 (str x.name) (by decide) (cut_get hcut (j := 2) rfl)))) rfl ?_
    refine yG ?_
    refine ODS.call rfl rfl (fun _ => rfl) ((weight12_ct hiv hiI (mM _) hxl.1 hxl.2).mono ?_)
    rintro u L' ⟨⟨n3, rfl⟩, rfl⟩
    refine ⟨_, rfl, ?_, ?_⟩
    · exact Keep.cons rfl (e_loadm m3 c3 rfl rfl (part_one rfl (g3 2 (str x.name) (by decide) (cut_get hcut (j := 2) rfl)))) (Keep.cons rfl (e_load 0 rfl rfl rfl rfl rfl) (Keep.gone rfl (Keep.gone rfl Keep.nil)))
    refine ODS.pure rfl rfl (e_addW rfl rfl rfl) rfl ?_
    refine ODS.pure rfl rfl (e_addW rfl rfl rfl) rfl ?_
    refine yG ?_
    exact ⟨d.secs.length - (j + 1), by omega, j + 1, _, rfl, by omega, rfl, rfl⟩
  all_goals
    refine yG ?_
    refine LS.exit ?_
    refine yG ?_
    exact ⟨⟨_, rfl⟩, Sub.drops 1 rfl⟩
end
end Go.Proofs.YtllcbjaajffaeaaGreatDoor

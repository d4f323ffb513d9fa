/- Layer 13: the scope of variables. -/
import Derived.Test.YtmdcfnnoeimakaaGreatDoorFRh
import Derived.Test.YtmdcfnnoeimakaaGreatDoorFXc
namespace Go.Xp
theorem look_snoc (l : List (B × B)) (n w x : B) : look (l ++ [(n, w)]) x = if n = x then some w else look l x := by
  unfold look
  rw [List.reverse_append]
  by_cases h : n = x
  · simp [h]
  · simp [h]
end Go.Xp
namespace Go.Proofs.YtmdcfnnoeimakaaGreatDoor.E
open Go.Proofs.YtmdcfnnoeimakaaGreatDoor
open Go.Am Go.Xp
set_option linter.unusedVariables false
set_option linter.unusedSimpArgs false
set_option maxRecDepth 20000
set_option maxHeartbeats 4000000
attribute [local irreducible] OS LSr ODS CS YS
theorem ext_list {A : Type} {l : List A} {k : Nat} (h : k < l.length) : ∃ x, l[k]? = some x := ⟨_, List.getElem?_eq_getElem h⟩
/-- Keys that are texts. -/
def DT (k : Value) : Prop := ∃ t : W, k = str t
theorem str_inj {s t : W} (h : str s = str t) : s = t := by
  simpa only [Value.string.injEq, ByteArray.mk.injEq, Array.mk.injEq] using h
theorem told_DT : Told2 DT := by
  rintro k k' ⟨t, rfl⟩ ⟨t', rfl⟩
  have hs : sameKeyB (str t) (str t') = some (bytesEq t t') := rfl
  rw [hs, beq_bytes]
  by_cases h : t = t'
  · subst h; exact .inl ⟨rfl, by simp⟩
  · exact .inr ⟨fun e => h (str_inj e), by simpa using h⟩
/-- Variables, laid out. -/
def fl (sv : List (W × W)) : List Value := sv.flatMap fun p => [str p.1, str p.2]
theorem fl_len : ∀ sv, (fl sv).length = sv.length * 2
  | [] => rfl
  | p :: sv => by
    have := fl_len sv
    simp only [fl, List.flatMap_cons, List.length_append, List.length_cons, List.length_nil] at this ⊢
    omega
theorem fl_cons (p : W × W) (sv) : fl (p :: sv) = str p.1 :: str p.2 :: fl sv := rfl
theorem fl_snoc (sv) (p : W × W) : fl (sv ++ [p]) = fl sv ++ [str p.1, str p.2] := by simp [fl]
theorem fl_cut : ∀ {sv : List (W × W)} {k : Nat} {p}, sv[k]? = some p → cut (fl sv) (k * 2) 2 = some [str p.1, str p.2]
  | [], _, _, h => by cases h
  | q :: sv, 0, p, h => by
    simp only [List.getElem?_cons_zero, Option.some.injEq] at h
    subst h
    rw [fl_cons, Nat.zero_mul, cut_of (by simp)]; simp
  | q :: sv, k + 1, p, h => by
    have := fl_cut (sv := sv) (k := k) (p := p) h
    rw [fl_cons, show (k + 1) * 2 = k * 2 + 1 + 1 by omega]
    exact this
theorem fl_at0 {sv : List (W × W)} {k : Nat} {p} (h : sv[k]? = some p) : (fl sv)[0 + k * 2 + 0]? = some (str p.1) := by
  induction sv generalizing k with
  | nil => cases h
  | cons q sv ih =>
    cases k with
    | zero => simp only [List.getElem?_cons_zero, Option.some.injEq] at h; subst h; rfl
    | succ k =>
      have := ih (k := k) h
      rw [fl_cons, show 0 + (k + 1) * 2 + 0 = (0 + k * 2 + 0) + 1 + 1 by omega]
      exact this
theorem fl_at1 {sv : List (W × W)} {k : Nat} {p} (h : sv[k]? = some p) : (fl sv)[0 + k * 2 + 1]? = some (str p.2) := by
  induction sv generalizing k with
  | nil => cases h
  | cons q sv ih =>
    cases k with
    | zero => simp only [List.getElem?_cons_zero, Option.some.injEq] at h; subst h; rfl
    | succ k =>
      have := ih (k := k) h
      rw [fl_cons, show 0 + (k + 1) * 2 + 1 = (0 + k * 2 + 1) + 1 + 1 by omega]
      exact this
theorem fl_lay {sv : List (W × W)} {k : Nat} (hk : k < sv.length) (p : W × W) : lay (fl sv) (0 + k * 2) [str p.1, str p.2] = some (fl (sv.set k p)) := by
  rw [Nat.zero_add]
  induction sv generalizing k with
  | nil => simp at hk
  | cons q sv ih =>
    cases k with
    | zero => cases sv <;> rfl
    | succ k =>
      have := ih (k := k) (by simpa using hk)
      rw [fl_cons, show (k + 1) * 2 = k * 2 + 1 + 1 by omega]
      simp only [lay, this, List.set_cons_succ, fl_cons]
/-- What the scope's list and map say of variables. -/
structure SC (l sv : List (W × W)) (f : Value → Option Value) : Prop where
  len : sv.length ≤ l.length
  no : ∀ n, Xp.look l n = none → f (str n) = none
  yes : ∀ n w, Xp.look l n = some w → ∃ j : Nat, f (str n) = some (.int .i64 (j : Int)) ∧ sv[j]? = some (n, w)
theorem SC.nil : SC [] [] fun _ => none := ⟨by simp, fun _ _ => rfl, fun n w h => by simp [Xp.look] at h⟩
theorem SC.found {l sv : List (W × W)} {f : Value → Option Value} {n u w : W} {j : Nat} (h : SC l sv f) (hf : f (str n) = some (.int .i64 (j : Int))) (hj : sv[j]? = some (n, u)) : SC (l ++ [(n, w)]) (sv.set j (n, w)) f := by
  have hjl : j < sv.length := (List.getElem?_eq_some_iff.1 hj).1
  refine ⟨by simp; have := h.len; omega, fun x hx => ?_, fun x v hx => ?_⟩
  · rw [look_snoc] at hx
    split at hx
    · cases hx
    · exact h.no x hx
  · rw [look_snoc] at hx
    split at hx
    · rename_i hn
      subst hn
      simp only [Option.some.injEq] at hx
      subst hx
      exact ⟨j, hf, by simp [hjl]⟩
    · rename_i hn
      obtain ⟨i, h1, h2⟩ := h.yes x v hx
      refine ⟨i, h1, ?_⟩
      have hne : j ≠ i := by
        rintro rfl
        rw [h2] at hj
        simp only [Option.some.injEq, Prod.mk.injEq] at hj
        exact hn hj.1.symm
      rw [List.getElem?_set_ne hne]
      exact h2
theorem SC.add {l sv : List (W × W)} {f f2 : Value → Option Value} {n w : W} (h : SC l sv f) (h1 : f2 (str n) = some (.int .i64 (sv.length : Nat))) (h2 : ∀ x, x ≠ str n → f2 x = f x) : SC (l ++ [(n, w)]) (sv ++ [(n, w)]) f2 := by
  refine ⟨by simp; have := h.len; omega, fun x hx => ?_, fun x v hx => ?_⟩
  · rw [look_snoc] at hx
    split at hx
    · cases hx
    · rename_i hn
      rw [h2 _ (fun e => hn (str_inj e).symm)]
      exact h.no x hx
  · rw [look_snoc] at hx
    split at hx
    · rename_i hn
      subst hn
      simp only [Option.some.injEq] at hx
      subst hx
      exact ⟨sv.length, h1, by simp⟩
    · rename_i hn
      obtain ⟨i, h3, h4⟩ := h.yes x v hx
      have hi : i < sv.length := (List.getElem?_eq_some_iff.1 h4).1
      exact ⟨i, by rw [h2 _ (fun e => hn (str_inj e).symm)]; exact h3, by rw [List.getElem?_append_left hi]; exact h4⟩
abbrev scRow (lv : Value) (rm : Nat) : ARow := .cells 84 [lv, .map (some rm)]
/-- The scope of these variables. -/
def SR (rs : Nat) (l : List (W × W)) (F L : RL) : Prop :=
  ∃ rm es ck f sv lv HY, L = (rs, scRow lv rm) :: (rm, .map es ck) :: (HY ++ F) ∧ GV 25 2 [] lv sv.length (fl sv) HY ∧ MapIs DT es f ∧ SC l sv f
theorem SR.split {rs : Nat} {l : List (W × W)} {F L : RL} (h : SR rs l F L) : ∃ C, L = C ++ F ∧ ∀ G, SR rs l G (C ++ G) := by
  obtain ⟨rm, es, ck, f, sv, lv, HY, rfl, g, hM, hS⟩ := h
  exact ⟨(rs, scRow lv rm) :: (rm, .map es ck) :: HY, rfl, fun G => ⟨rm, es, ck, f, sv, lv, HY, rfl, g, hM, hS⟩⟩
theorem SR.mem {rs : Nat} {l : List (W × W)} {F L : RL} (h : SR rs l F L) : ∀ p, p ∈ F → p ∈ L := by
  obtain ⟨C, rfl, _⟩ := h.split
  exact fun p hp => List.mem_append_right _ hp
theorem gv_at {sv : List (W × W)} {lv : Value} {HY : RL} {j : Nat} {p : W × W} (g : GV 25 2 [] lv sv.length (fl sv) HY) (h : sv[j]? = some p) : ∃ r, lv = .slice (some ⟨r, 0, none⟩) sv.length openCap ∧ HY = [(r, .cells 25 (fl sv))] :=
  g.row (by have := (List.getElem?_eq_some_iff.1 h).1; omega)
theorem set_ct {rs : Nat} {l : List (W × W)} {F L : RL} (n w : W) (hS : SR rs l F L) (hl : (l.length + 1) * 32 ≤ 140737488355328) :
    CS Tryz.prog 25 [ptr rs, .agg #[str n, str w]] L fun v L' => SR rs (l ++ [(n, w)]) F L' := by
  suffices h : CS Tryz.prog 25 [ptr rs, .agg #[str n, str w]] L fun v L' => ∃ X, SR rs (l ++ [(n, w)]) F X ∧ Sub X L' from h.less fun v L' ⟨X, h1, h2⟩ => ⟨X, h2, h1⟩
  obtain ⟨rm, es, ck, f, sv, lv, HY, rfl, g, hM, hC⟩ := hS
  have hDT : DT (str n) := ⟨_, rfl⟩
  have hlen := hC.len
  refine CS.mk (fn := Tryz.f25) rfl rfl rfl rfl ?_
  cases hlo : Xp.look l n with
  | some u =>
    obtain ⟨j, hf, hj⟩ := hC.yes n u hlo
    obtain ⟨r, rfl, rfl⟩ := gv_at g hj
    have hjl : j < sv.length := (List.getElem?_eq_some_iff.1 hj).1
    have hlk : (match findB (str n) es 0 with | some (some (_, v)) => some (okTuple true v true) | some none => (match zeroVB Tryz.prog 3 with | some z => some (okTuple true z false) | none => none) | none => none) = some (.tuple #[.int .i64 (j : Int), .bool true]) := by
      rcases hM.found _ hDT with ⟨h1, h2⟩ | ⟨v, i, h1, h2⟩
      · rw [hf] at h1; cases h1
      · rw [hf] at h1
        simp only [Option.some.injEq] at h1
        rw [h2, ← h1]; rfl
    have hlay := fl_lay hjl (n, w)
    repeat refine LS.seq ?_
    refine LS.region rfl ?_
    refine OS.fresh rfl (e_new (fun _ => rfl) rfl) (fun _ => rfl) (fun r3 => ?_)
    refine OS.nil ?_
    repeat refine LS.seq ?_
    refine LS.drawn noGo mixed [(0, false), (1, false), (2, false), (3, false), (4, false), (5, false), (6, false), (7, false), (8, false), (9, false), (10, false), (11, false)] rfl rfl (by kernel_rfl) ?_
    refine yG ?_
    refine ODS.read rfl rfl (e_lookup 2 rfl rfl rfl rfl (by kernel_rfl) rfl hlk) rfl ?_
    refine yG ?_
    repeat refine LS.seq ?_
    refine LS.drawn noGo mixed [(0, false), (1, false), (2, false), (3, false), (4, false), (5, false), (6, false), (7, true)] rfl rfl (by kernel_rfl) ?_
    refine yG ?_
    refine ODS.pure rfl rfl (e_index (j := j) (sz := 2) rfl rfl rfl rfl rfl hjl) rfl ?_
    refine ODS.write rfl rfl (e_store 3 (n := 2) (cs' := fl (sv.set j (n, w))) rfl rfl rfl rfl rfl rfl hlay rfl) rfl (Keep.gone rfl (Keep.gone rfl Keep.nil)) ?_
    refine yG ?_
    refine ⟨_, ⟨rm, es, ck, f, sv.set j (n, w), .slice (some ⟨r, 0, none⟩) sv.length openCap, [(r, .cells 25 (fl (sv.set j (n, w))))], rfl, ?_, hM, hC.found hf hj⟩, Sub.drops 1 rfl⟩
    exact .inr ⟨r, by rw [List.length_set], fl_len _, rfl⟩
  | none =>
    have hf := hC.no n hlo
    have hlk : (match findB (str n) es 0 with | some (some (_, v)) => some (okTuple true v true) | some none => (match zeroVB Tryz.prog 3 with | some z => some (okTuple true z false) | none => none) | none => none) = some (.tuple #[.int .i64 0, .bool false]) := by
      rcases hM.found _ hDT with ⟨h1, h2⟩ | ⟨v, i, h1, h2⟩
      · rw [h2]; kernel_rfl
      · rw [hf] at h1; cases h1
    obtain ⟨es2, ck2, f2, hput, hM2, hp1, hp2⟩ := hM.put' (v := .int .i64 (sv.length : Nat)) (ck := ck) told_DT hDT
    have hg : GV 25 2 F lv sv.length (fl sv) (HY ++ F) := GV.appendR F g
    repeat refine LS.seq ?_
    refine LS.region rfl ?_
    refine OS.fresh rfl (e_new (fun _ => rfl) rfl) (fun _ => rfl) (fun r3 => ?_)
    refine OS.nil ?_
    repeat refine LS.seq ?_
    refine LS.drawn noGo mixed [(0, false), (1, false), (2, false), (3, false), (4, false), (5, false), (6, false), (7, false), (8, false), (9, false), (10, false), (11, false)] rfl rfl (by kernel_rfl) ?_
    refine yG ?_
    refine ODS.read rfl rfl (e_lookup 2 rfl rfl rfl rfl (by kernel_rfl) rfl hlk) rfl ?_
    refine yG ?_
    repeat refine LS.seq ?_
    refine LS.drawn noGo mixed [(0, false), (1, false), (2, false), (3, false), (4, false), (5, false), (6, false), (7, false), (8, false), (9, false), (10, false), (11, true)] rfl rfl (by kernel_rfl) ?_
    refine yG ?_
    refine ODS.pure rfl rfl (e_len hg.sv rfl rfl rfl rfl rfl) rfl ?_
    refine ODS.write rfl rfl (e_mapUpdate 2 rfl rfl rfl rfl rfl (by kernel_rfl) rfl hput rfl) rfl (Keep.gone rfl (Keep.gone rfl (Keep.gone rfl Keep.nil))) ?_
    refine yG ?_
    repeat refine LS.seq ?_
    refine LS.drawn noGo mixed [(0, false), (1, false), (2, false), (3, false), (4, false), (5, false), (6, true), (7, true), (8, false), (9, false), (10, true)] rfl rfl (by kernel_rfl) ?_
    refine yG ?_
    refine ODS.fresh rfl rfl (e_new (fun _ => rfl) rfl) (fun _ => rfl) (fun _ => (by first | exact Keep.gone rfl (Keep.cons rfl (e_load 2 rfl rfl rfl rfl rfl) Keep.nil) | exact Keep.cons rfl (e_load 2 rfl rfl rfl rfl rfl) (Keep.gone rfl Keep.nil) | exact Keep.gone rfl (Keep.gone rfl Keep.nil))) (fun r6 => ?_)
    refine ODS.fresh rfl rfl (e_appendGV [(r6, .cells 25 [str n, str w]), (r3, .cells 25 [str n, str w]), (rs, scRow lv rm), (rm, .map es2 ck2)] (sz := 2) (bts := 32) (m := 1) (new := [str n, str w]) hg (SV.row (List.mem_cons_self ..) rfl) (by omega) rfl rfl rfl rfl (by omega) (by omega)) (fun _ => rfl) (fun _ => by first | exact Keep.gone rfl (Keep.gone rfl Keep.nil) | exact Keep.gone rfl Keep.nil) (fun r7 => ?_)
    refine yG ?_
    refine ODS.write rfl rfl (e_store 3 (n := 1) rfl rfl rfl rfl rfl rfl rfl rfl) rfl (by first | exact Keep.gone rfl (Keep.gone rfl Keep.nil) | exact Keep.gone rfl Keep.nil | exact Keep.nil) ?_
    refine yG ?_
    refine ⟨_, fun _ _ => rfl, ?_⟩
    refine ⟨(rs, scRow (.slice (some ⟨r7, 0, none⟩) (sv.length + 1) openCap) rm) :: (rm, .map es2 ck2) :: ([(r7, .cells 25 (fl sv ++ [str n, str w]))] ++ F), ⟨rm, es2, ck2, f2, sv ++ [(n, w)], _, _, rfl, ?_, hM2, hC.add hp1 hp2⟩, Sub.sums2 [(r6, .cells 25 [str n, str w]), (r3, .cells 25 [str n, str w])] fun f => by simp [scRow]; omega⟩
    refine .inr ⟨r7, by simp, fl_len _, ?_⟩
    rw [fl_snoc]
theorem scopeOf_ct {L : RL} {v : Value} {l : List (W × W)} (hv : SV 2 L v l.length (fl l)) (hl : l.length * 32 ≤ 140737488355328) :
    CS Tryz.prog 15 [v] L fun u L' => ∃ rs, u = ptr rs ∧ SR rs l L L' := by
  refine CS.mk (fn := Tryz.f15) rfl rfl rfl rfl ?_
  refine yG ?_
  refine OS.fresh rfl (e_makeMap rfl rfl rfl) (fun _ => rfl) (fun rm => ?_)
  refine yG ?_
  refine OS.fresh rfl (e_new (fun _ => rfl) rfl) (fun _ => rfl) (fun rs => ?_)
  refine yG ?_
  refine LS.loopJ [0, 3, 9, 10, 11] (fun q a L' => ∃ k : Nat, q = l.length - k ∧ k ≤ l.length ∧ SR rs (l.take k) L L' ∧ a = [v, .chan none, .chan none, ptr rs, .chan none, .chan none, .chan none, .chan none, .chan none, v, .int .i64 (l.length : Nat), .int .i64 (k : Nat), .chan none, .chan none, .chan none, .chan none, .chan none, .chan none, .chan none, .chan none]) (n := l.length) rfl ⟨0, rfl, by omega, ⟨rm, [], 0, fun _ => none, [], .slice none 0 0, [], rfl, GV.nil, MapIs.nil, SC.nil⟩, rfl⟩ ?_
  rintro q a L' ⟨k, rfl, hk, hS, rfl⟩
  refine yG ?_
  repeat refine LS.seq ?_
  refine LS.cond rfl (fun hc => ?_) (fun hc => ?_)
  · have hc := lt_of hc
    obtain ⟨p, hg⟩ := ext_list (l := l) (k := k) (by omega)
    have hv' := hv.mono hS.mem
    refine LS.skip ?_
    refine yG ?_
    refine OS.at (j := k) hv' (by omega) rfl rfl rfl rfl rfl rfl (fun r0 o0 row0 cs0 m0 c0 h0 k0 => ?_)
    refine ⟨_, rfl, ?_⟩
    refine yG ?_
    refine OS.read rfl (e_loadm m0 c0 rfl rfl (part_agg rfl rfl (k0 _ (fl_cut hg)))) rfl ?_
    refine OS.fresh rfl (e_new (fun _ => rfl) rfl) (fun _ => rfl) (fun r5 => ?_)
    refine OS.write rfl (e_store 0 rfl rfl rfl rfl rfl rfl rfl rfl) rfl ?_
    refine yG ?_
    refine OS.sub (Sub.drops 1 rfl) ?_
    refine OS.call noGo rfl (fun _ => rfl) ((set_ct p.1 p.2 hS (by simp; omega)).mono ?_)
    rintro u L2 hS2
    refine yG ?_
    exact ⟨l.length - (k + 1), by omega, k + 1, rfl, by omega, by rw [take_one hg]; exact hS2, rfl⟩
  · have hc := nlt_of hc
    obtain rfl : k = l.length := by omega
    rw [List.take_length] at hS
    refine LS.exit ?_
    refine yG ?_
    exact hS
theorem value_ct {rs : Nat} {l : List (W × W)} {F L : RL} (n : W) (hS : SR rs l F L) :
    CS Tryz.prog 16 [ptr rs, str n] L fun v L' => v = .tuple #[str ((Xp.look l n).getD []), .bool (Xp.look l n).isSome] ∧ L' = L := by
  obtain ⟨rm, es, ck, f, sv, lv, HY, rfl, g, hM, hC⟩ := hS
  have hDT : DT (str n) := ⟨_, rfl⟩
  refine CS.mk (fn := Tryz.f16) rfl rfl rfl rfl ?_
  cases hlo : Xp.look l n with
  | some u =>
    obtain ⟨j, hf, hj⟩ := hC.yes n u hlo
    obtain ⟨r, rfl, rfl⟩ := gv_at g hj
    have hjl : j < sv.length := (List.getElem?_eq_some_iff.1 hj).1
    have hlk : (match findB (str n) es 0 with | some (some (_, v)) => some (okTuple true v true) | some none => (match zeroVB Tryz.prog 3 with | some z => some (okTuple true z false) | none => none) | none => none) = some (.tuple #[.int .i64 (j : Int), .bool true]) := by
      rcases hM.found _ hDT with ⟨h1, h2⟩ | ⟨v, i, h1, h2⟩
      · rw [hf] at h1; cases h1
      · rw [hf] at h1
        simp only [Option.some.injEq] at h1
        rw [h2, ← h1]; rfl
    refine yG ?_
    refine OS.read rfl (e_lookup 1 rfl rfl rfl rfl (by kernel_rfl) rfl hlk) rfl ?_
    refine yG ?_
    refine OS.pure rfl (e_index (j := j) (sz := 2) rfl rfl rfl rfl rfl hjl) rfl ?_
    refine yG ?_
    refine OS.read rfl (e_load 2 rfl rfl rfl rfl (part_one rfl (fl_at1 hj))) rfl ?_
    refine yG ?_
    exact ⟨rfl, rfl⟩
  | none =>
    have hf := hC.no n hlo
    have hlk : (match findB (str n) es 0 with | some (some (_, v)) => some (okTuple true v true) | some none => (match zeroVB Tryz.prog 3 with | some z => some (okTuple true z false) | none => none) | none => none) = some (.tuple #[.int .i64 0, .bool false]) := by
      rcases hM.found _ hDT with ⟨h1, h2⟩ | ⟨v, i, h1, h2⟩
      · rw [h2]; kernel_rfl
      · rw [hf] at h1; cases h1
    refine yG ?_
    refine OS.read rfl (e_lookup 1 rfl rfl rfl rfl (by kernel_rfl) rfl hlk) rfl ?_
    refine yG ?_
    exact ⟨rfl, rfl⟩
end Go.Proofs.YtmdcfnnoeimakaaGreatDoor.E

import Derived.Test.YtllcbjaajffaeaaGreatDoorRh
namespace Go.Am
theorem count_sum [DecidableEq (Nat × ARow)] (x : Nat × ARow) : ∀ l : RL, l.count x = (l.map fun y => if y = x then 1 else 0).sum
  | [] => rfl
  | y :: l => by
    rw [List.count_cons, count_sum x l, List.map_cons, List.sum_cons]
    by_cases h : y = x <;> simp [h] <;> omega
theorem Sub.sums2 (D : RL) {A B : RL} (h : ∀ f : Nat × ARow → Nat, (B.map f).sum = (A.map f).sum + (D.map f).sum) : Sub A B := by
  classical
  refine ⟨D, ?_⟩
  letI : BEq (Nat × ARow) := ⟨fun a b => decide (a = b)⟩
  haveI : LawfulBEq (Nat × ARow) := { eq_of_beq := fun h => of_decide_eq_true h, rfl := decide_eq_true rfl }
  rw [List.perm_iff_count]
  intro x
  rw [List.count_append, count_sum, count_sum, count_sum]
  exact h _
theorem Sub.sums {A B : RL} (h : ∀ f : Nat × ARow → Nat, (B.map f).sum = (A.map f).sum) : Sub A B := Sub.sums2 [] fun f => by rw [h f]; simp
theorem Sub.trans {A B C : RL} (h : Sub A B) (k : Sub B C) : Sub A C := by
  obtain ⟨M, p⟩ := h
  obtain ⟨N, q⟩ := k
  exact ⟨M ++ N, q.trans (by simpa using p.append_right N)⟩
theorem GV.appendR {e : TypeId} {sz n : Nat} {F L : RL} {v : Value} {cs : List Value} (X : RL) (g : GV e sz F v n cs L) : GV e sz (F ++ X) v n cs (L ++ X) := by
  rcases g with ⟨rfl, rfl, rfl, rfl⟩ | ⟨r, rfl, hl, rfl⟩
  · exact .inl ⟨rfl, rfl, rfl, rfl⟩
  · exact .inr ⟨r, rfl, hl, rfl⟩
theorem SV.up {sz n : Nat} {F G : RL} {v : Value} {cs : List Value} (h : SV sz F v n cs) (hm : ∀ p, p ∈ F → p ∈ G) : SV sz G v n cs := by
  rcases h with h | ⟨r, off, cap, row, cs₀, h1, h2, h3⟩
  · exact .inl h
  · exact .inr ⟨r, off, cap, row, cs₀, h1, hm _ h2, h3⟩
end Go.Am
namespace Go.Proofs.YtllcbjaajffaeaaGreatDoor
open Go.Am Go.Pd
set_option linter.unusedVariables false
set_option maxRecDepth 20000
set_option maxHeartbeats 4000000
attribute [local irreducible] OS LSr ODS CS YS
def ItsR (M : RL) : List It → List Value → Prop
  | [], cs => cs = []
  | x :: r, cs => ∃ a cs', cs = .int .i64 x.no :: str x.word :: a :: cs' ∧ Wd M a x.args ∧ ItsR M r cs'
theorem ItsR.mono {M M' : RL} (hm : ∀ p, p ∈ M → p ∈ M') : ∀ {l : List It} {cs : List Value}, ItsR M l cs → ItsR M' l cs
  | [], _, h => h
  | x :: r, _, ⟨a, cs', h1, h2, h3⟩ => ⟨a, cs', h1, h2.mono hm, h3.mono hm⟩
theorem ItsR.len {M : RL} : ∀ {l : List It} {cs : List Value}, ItsR M l cs → cs.length = l.length * 3
  | [], _, h => by rw [show _ = [] from h]; rfl
  | x :: r, _, ⟨a, cs', h1, h2, h3⟩ => by rw [h1]; simp [h3.len]; omega
theorem ItsR.snoc {M : RL} {x : It} {a : Value} (hx : Wd M a x.args) : ∀ {l : List It} {cs : List Value}, ItsR M l cs → ItsR M (l ++ [x]) (cs ++ [.int .i64 x.no, str x.word, a])
  | [], _, h => by rw [show _ = [] from h]; exact ⟨a, [], rfl, hx, rfl⟩
  | y :: r, _, ⟨b, cs', h1, h2, h3⟩ => ⟨b, _, by rw [h1]; rfl, h2, h3.snoc hx⟩
abbrev secC (no : Int) (kind : UInt8) (name : W) (iv : Value) : List Value := [.int .i64 no, .int .u8 (kind.toNat : Nat), str name, iv]
def SecsR (M : RL) : List Se → List Value → Prop
  | [], cs => cs = []
  | y :: r, cs => ∃ iv ics cs', cs = secC y.no y.kind y.name iv ++ cs' ∧ (SV 3 M iv y.items.length ics ∧ ItsR M y.items ics) ∧ SecsR M r cs'
theorem SecsR.mono {M M' : RL} (hm : ∀ p, p ∈ M → p ∈ M') : ∀ {l : List Se} {cs : List Value}, SecsR M l cs → SecsR M' l cs
  | [], _, h => h
  | x :: r, _, ⟨iv, ics, cs', h1, h2, h3⟩ => ⟨iv, ics, cs', h1, ⟨h2.1.up hm, h2.2.mono hm⟩, h3.mono hm⟩
theorem SecsR.len {M : RL} : ∀ {l : List Se} {cs : List Value}, SecsR M l cs → cs.length = l.length * 4
  | [], _, h => by rw [show _ = [] from h]; rfl
  | x :: r, _, ⟨iv, ics, cs', h1, h2, h3⟩ => by rw [h1]; simp [h3.len]; omega
theorem SecsR.snoc {M : RL} {y : Se} {iv : Value} {ics : List Value} (hy : SV 3 M iv y.items.length ics ∧ ItsR M y.items ics) : ∀ {l : List Se} {cs : List Value}, SecsR M l cs → SecsR M (l ++ [y]) (cs ++ secC y.no y.kind y.name iv)
  | [], _, h => by rw [show _ = [] from h]; exact ⟨iv, ics, [], rfl, hy, rfl⟩
  | z :: r, _, ⟨jv, jcs, cs', h1, h2, h3⟩ => ⟨jv, jcs, _, by rw [h1]; rfl, h2, h3.snoc hy⟩
inductive DocM (tI tS : TypeId) (M : RL) (hv : Value) : Value → Dc → RL → RL → RL → Prop where
  | none {h : List It} {cs : List Value} {HY : RL} (hh : GV tI 3 [] hv h.length cs HY) (hi : ItsR M h cs) : DocM tI tS M hv (.slice none 0 0) ⟨h, []⟩ HY [] []
  | some {h : List It} {cs : List Value} {HY IY : RL} {S : List Se} {y : Se} {cs0 ics : List Value} {iv : Value} {rS : Nat} (hh : GV tI 3 [] hv h.length cs HY) (hi : ItsR M h cs) (hS : SecsR M S cs0) (hg : GV tI 3 [] iv y.items.length ics IY) (hy : ItsR M y.items ics) :
    DocM tI tS M hv (.slice (some ⟨rS, 0, .none⟩) (S.length + 1) openCap) ⟨h, S ++ [y]⟩ HY [(rS, .cells tS (cs0 ++ secC y.no y.kind y.name iv))] IY
theorem DocM.mono {tI tS : TypeId} {M M' : RL} {hv sv : Value} {d : Dc} {HY SY IY : RL} (hm : ∀ p, p ∈ M → p ∈ M') (h : DocM tI tS M hv sv d HY SY IY) : DocM tI tS M' hv sv d HY SY IY := by
  cases h with
  | none hh hi => exact .none hh (hi.mono hm)
  | some hh hi hS hg hy => exact .some hh (hi.mono hm) (hS.mono hm) hg (hy.mono hm)
def jn2 (w n : W) : W := w ++ 32 :: n
def mtext (w : W) (a : List W) : W := if w = kAxis then jn2 w (a.headD []) else w
def cnt (d : Dc) (c : UInt8) : Nat := (d.secs.filter fun s => s.kind == c).length
structure MarkOk (fm : Value → Option Value) (d : Dc) : Prop where
  sec : ∀ w n, (w = kTemplate ∨ w = kJob) → ((fm (mkV 0 (jn2 w n))).isSome ↔ (d.secs.any fun s => s.kind == kindOf w && decide (s.name = n)) = true)
  item : ∀ w a, once w = true → (w = kAxis → a ≠ []) → d.secs ≠ [] → ((fm (mkV d.secs.length (mtext w a))).isSome ↔ twice d.last.2 w a = true)
  next : ∀ k t, d.secs.length < k → fm (mkV k t) = none
structure DcOk (d : Dc) : Prop where
  head : d.head.length ≤ 40
  items : ∀ s, s ∈ d.secs → s.items.length ≤ 40
  secs : d.secs.length = cnt d 1 + cnt d 2
  c1 : cnt d 1 ≤ 24
  c2 : cnt d 2 ≤ 24
def CntOk (fc : Value → Option Value) (d : Dc) : Prop := ∀ c, (c = 1 ∨ c = 2) → (fc (kdV c) = none ∧ cnt d c = 0) ∨ fc (kdV c) = some (.int .i64 (cnt d c : Nat))
abbrev DRAFT : Nat := 168
abbrev tI : Nat := 70
abbrev tS : Nat := 40
abbrev dRow (hv sv : Value) (rr rc rs : Nat) : ARow := .cells DRAFT [hv, sv, .map (some rr), .map (some rc), .map (some rs)]
structure DS (rd : Nat) (d : Dc) (Y B F L : RL) : Prop where
  ex : ∃ rr rc rs es ck ec kc em km hv sv HY SY IY fc fm, L = (rd, dRow hv sv rr rc rs) :: (rr, .map es ck) :: (rc, .map ec kc) :: (rs, .map em km) :: (HY ++ (SY ++ (IY ++ (Y ++ F)))) ∧
    (∀ p, p ∈ B → p ∈ F) ∧ DcOk d ∧ RulesOk es (Y ++ B) ∧ (MapIs DK ec fc ∧ CntOk fc d) ∧ (MapIs DM em fm ∧ (∀ k v, fm k = some v → v = .agg #[]) ∧ MarkOk fm d) ∧ DocM tI tS (Y ++ B) hv sv d HY SY IY
section
variable {F X : RL} {rd : Nat}
theorem isFirst_ct {hv sv cv : Value} {rr rc rs n : Nat} {em : List MapEntry} {km : Nat} {fm : Value → Option Value} {A : List W} (hM : MapIs DM em fm) (hu : ∀ k v, fm k = some v → v = .agg #[]) (hc : SV 1 X cv A.length (strs A)) (hA : A ≠ []) (hl : A.length ≤ 1000) (hj : (Lib.join A [32]).length ≤ 1000000) :
    CS Tryz.prog 165 [ptr rd, .int .i64 (n : Nat), cv] ((rd, dRow hv sv rr rc rs) :: (rs, .map em km) :: X) fun v L' => ∃ em2 km2 fm2, v = .bool (!(fm (mkV n (Lib.join A [32]))).isSome) ∧ L' = (rd, dRow hv sv rr rc rs) :: (rs, .map em2 km2) :: X ∧ MapIs DM em2 fm2 ∧ (∀ k v, fm2 k = some v → v = .agg #[]) ∧ (∀ k, k ≠ mkV n (Lib.join A [32]) → fm2 k = fm k) ∧ (fm2 (mkV n (Lib.join A [32]))).isSome := by
  generalize ht : Lib.join A [32] = t at hj ⊢
  have hk : DM (mkV n t) := ⟨n, t, rfl⟩
  obtain ⟨em2, km2, fm2, hput, hM2, hf1, hf2⟩ := hM.put' (v := .agg #[]) (ck := km) told_DM hk
  suffices h : CS Tryz.prog 165 [ptr rd, .int .i64 (n : Nat), cv] ((rd, dRow hv sv rr rc rs) :: (rs, .map em km) :: X) fun v L' => v = .bool (!(fm (mkV n t)).isSome) ∧ ∃ r7 r8 a b, L' = (r8, b) :: (r7, a) :: (rd, dRow hv sv rr rc rs) :: (rs, .map em2 km2) :: X from
    h.less fun v L' ⟨h1, r7, r8, a, b, h2⟩ => ⟨_, by rw [h2]; exact Sub.drops 2 rfl, em2, km2, fm2, h1, rfl, hM2, fun k v e => by
      by_cases hk : k = mkV n t
      · rw [hk, hf1] at e; exact (Option.some.inj e).symm
      · rw [hf2 k hk] at e; exact hu k v e, hf2, by rw [hf1]; rfl⟩
  refine CS.mk (fn := Tryz.f165) rfl rfl rfl rfl ?_
  refine yG ?_
  refine OS.call noGo rfl (fun _ => rfl) ((SJoin_ct (hc.up fun p hp => List.mem_cons_of_mem _ (List.mem_cons_of_mem _ hp)) hA (by omega) (by rw [ht]; exact hj)).mono ?_)
  rintro v L' ⟨rfl, rfl⟩
  rw [ht]
  refine ⟨_, rfl, ?_⟩
  refine yG ?_
  refine OS.fresh rfl (e_new (fun _ => rfl) rfl) (fun _ => rfl) (fun r7 => ?_)
  refine yG ?_
  have hf : (match findB (mkV n t) em 0 with | some (some (_, v)) => some (okTuple true v true) | some none => (match zeroVB Tryz.prog 330 with | some z => some (okTuple true z false) | none => none) | none => none) = some (.tuple #[.agg #[], .bool (fm (mkV n t)).isSome]) := by
    rcases hM.found _ hk with ⟨h1, h2⟩ | ⟨v, j, h1, h2⟩
    · rw [h2, h1]; kernel_rfl
    · rw [h2, h1, hu _ _ h1]; rfl
  repeat refine LS.seq ?_
  refine LS.drawn noGo mixed [(0, false), (1, false), (2, false), (3, false), (4, false), (5, false), (6, false), (7, false), (8, false), (9, true), (10, true), (11, false)] rfl rfl (by kernel_rfl) ?_
  refine yG ?_
  refine ODS.read rfl rfl (e_lookup 2 rfl rfl rfl rfl (by kernel_rfl) rfl hf) rfl ?_
  refine yG ?_
  refine ODS.fresh rfl rfl (e_new (fun _ => rfl) rfl) (fun _ => rfl) (fun _ => Keep.cons rfl (e_lookup 3 rfl rfl rfl rfl (by kernel_rfl) rfl hf) (Keep.cons rfl (e_load 1 rfl rfl rfl rfl rfl) (Keep.cons rfl (e_load 2 rfl rfl rfl rfl rfl) Keep.nil))) (fun r8 => ?_)
  refine ODS.write rfl rfl (e_store 0 (n := 0) rfl rfl rfl rfl rfl rfl rfl rfl) rfl (Keep.gone rfl (Keep.gone rfl (Keep.gone rfl Keep.nil))) ?_
  refine yG ?_
  repeat refine LS.seq ?_
  refine LS.drawn noGo mixed [(0, false), (1, false), (2, false), (3, false), (4, false), (5, false), (6, true)] rfl rfl (by kernel_rfl) ?_
  refine yG ?_
  refine ODS.write rfl rfl (e_mapUpdate 3 rfl rfl rfl rfl rfl (by kernel_rfl) rfl hput rfl) rfl (Keep.gone rfl (Keep.gone rfl Keep.nil)) ?_
  refine yG ?_
  rcases tf (fm (mkV n t)).isSome with h | h
  · rw [h]
    exact ⟨rfl, r7, r8, _, _, rfl⟩
  · rw [h]
    exact ⟨rfl, r7, r8, _, _, rfl⟩
theorem last_none {hv : Value} {rr rc rs : Nat} : CS Tryz.prog 164 [ptr rd] ((rd, dRow hv (.slice none 0 0) rr rc rs) :: X) fun v L' => v = .pointer none ∧ L' = (rd, dRow hv (.slice none 0 0) rr rc rs) :: X := by
  refine CS.mk (fn := Tryz.f164) rfl rfl rfl rfl ?_
  refine yG ?_
  exact ⟨rfl, rfl⟩
theorem last_some {hv : Value} {rr rc rs rS n : Nat} (hn : n ≤ 1000000) : CS Tryz.prog 164 [ptr rd] ((rd, dRow hv (.slice (some ⟨rS, 0, none⟩) (n + 1) openCap) rr rc rs) :: X) fun v L' => v = .pointer (some ⟨rS, n * 4, none⟩) ∧ L' = (rd, dRow hv (.slice (some ⟨rS, 0, none⟩) (n + 1) openCap) rr rc rs) :: X := by
  have hb : ieqB ((n + 1 : Nat) : Int) 0 = false := by rw [ieqB_eq]; simp; omega
  refine CS.mk (fn := Tryz.f164) rfl rfl rfl rfl ?_
  refine yG ?_
  repeat refine LS.seq ?_
  refine LS.drawn noGo mixed [(0, false), (1, false), (2, false), (3, false), (4, false), (5, false), (6, false), (7, false), (8, false), (9, false), (10, false), (11, false), (12, false), (13, false)] rfl rfl (by kernel_rfl) ?_
  refine yG ?_
  refine ODS.pure rfl rfl (e_index (j := n) (sz := 4) rfl rfl rfl rfl rfl (by omega)) rfl ?_
  refine yG ?_
  exact ⟨by rw [Nat.zero_add]; rfl, rfl⟩
def placeN (d : Dc) : Nat := match d.secs.getLast? with
  | none => 1
  | some s => if s.kind = 1 then 2 else if s.items = [] then 4 else 8
theorem place_ct {hv sv : Value} {rr rc rs : Nat} {d : Dc} {M HY SY IY : RL} (hD : DocM tI tS M hv sv d HY SY IY) (hX : ∀ p, p ∈ SY → p ∈ X) (hn : d.secs.length ≤ 1000000) (hi : ∀ s ∈ d.secs, s.items.length ≤ 1000000) :
    CS Tryz.prog 137 [ptr rd] ((rd, dRow hv sv rr rc rs) :: X) fun v L' => v = .int .u8 (placeN d : Nat) ∧ L' = (rd, dRow hv sv rr rc rs) :: X := by
  cases hD with
  | none hh hI =>
    refine CS.mk (fn := Tryz.f137) rfl rfl rfl rfl ?_
    refine yG ?_
    refine OS.call noGo rfl (fun _ => rfl) ((last_none).mono ?_)
    rintro v L' ⟨rfl, rfl⟩
    refine ⟨_, rfl, ?_⟩
    refine yG ?_
    exact ⟨rfl, rfl⟩
  | some hh hI hS hg hy =>
    rename_i h cs S y cs0 ics iv rS
    have e : placeN ⟨h, S ++ [y]⟩ = if y.kind = 1 then 2 else if y.items = [] then 4 else 8 := by unfold placeN; simp
    have hm := List.mem_cons_of_mem (rd, dRow hv (.slice (some ⟨rS, 0, none⟩) (S.length + 1) openCap) rr rc rs) (hX _ (List.mem_cons_self ..))
    have hl := hS.len
    have g1 : (cs0 ++ secC y.no y.kind y.name iv)[S.length * 4 + 1]? = some (.int .u8 (y.kind.toNat : Nat)) := by rw [List.getElem?_append_right (by omega), hl]; simp
    have g3 : (cs0 ++ secC y.no y.kind y.name iv)[S.length * 4 + 3]? = some iv := by rw [List.getElem?_append_right (by omega), hl]; simp
    rw [e]
    refine CS.mk (fn := Tryz.f137) rfl rfl rfl rfl ?_
    refine yG ?_
    refine OS.call noGo rfl (fun _ => rfl) ((last_some (by simp at hn; omega)).mono ?_)
    rintro v L' ⟨rfl, rfl⟩
    refine ⟨_, rfl, ?_⟩
    refine yG ?_
    refine OS.read rfl (e_loadm hm rfl rfl rfl (part_one rfl g1)) rfl ?_
    by_cases hk : y.kind = 1
    · rw [hk, if_pos rfl]
      refine yG ?_
      exact ⟨rfl, rfl⟩
    · have hb : ieqB (y.kind.toNat : Nat) 1 = false := by
        rw [cmp_u8 (k := 1) y.kind 1 rfl]; simpa using hk
      rw [if_neg hk]
      refine yG ?_
      refine OS.read rfl (e_loadm hm rfl rfl rfl (part_one rfl g3)) rfl ?_
      have hil : y.items.length ≤ 1000000 := hi y (by simp)
      refine OS.pure rfl (e_len (L := IY) hg.sv rfl rfl rfl rfl rfl) rfl ?_
      by_cases h0 : y.items = []
      · have hb2 : ieqB ((y.items.length : Nat) : Int) 0 = true := by rw [h0]; rfl
        rw [if_pos h0]
        refine yG ?_
        exact ⟨rfl, rfl⟩
      · have hb2 : ieqB ((y.items.length : Nat) : Int) 0 = false := by rw [ieqB_eq]; cases hh : y.items with
          | nil => exact absurd hh h0
          | cons a b => simp; omega
        rw [if_neg h0]
        refine yG ?_
        exact ⟨rfl, rfl⟩
end
end Go.Proofs.YtllcbjaajffaeaaGreatDoor

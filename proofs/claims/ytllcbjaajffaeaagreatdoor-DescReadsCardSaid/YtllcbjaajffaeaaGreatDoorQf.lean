import Derived.Test.YtllcbjaajffaeaaGreatDoorRtM
namespace Go.Am
theorem GV.split {e : TypeId} {sz n : Nat} {F L : RL} {v : Value} {cs : List Value} (g : GV e sz F v n cs L) : ∃ Y, L = Y ++ F ∧ GV e sz [] v n cs Y := by
  rcases g with ⟨rfl, rfl, rfl, rfl⟩ | ⟨r, rfl, hl, rfl⟩
  · exact ⟨[], rfl, .nil⟩
  · exact ⟨[_], rfl, .of hl⟩
theorem GV.sup {e : TypeId} {sz n : Nat} {F L : RL} {v : Value} {cs : List Value} (g : GV e sz F v n cs L) : ∀ p, p ∈ F → p ∈ L := by
  rcases g with ⟨rfl, rfl, rfl, rfl⟩ | ⟨r, rfl, hl, rfl⟩
  · exact fun p hp => hp
  · exact fun p hp => List.mem_cons_of_mem _ hp
theorem GV.form {e : TypeId} {sz n : Nat} {F L : RL} {v : Value} {cs : List Value} (g : GV e sz F v n cs L) : ∃ A c, v = .slice A n c := g.sv.form
end Go.Am
namespace Go.Proofs.YtllcbjaajffaeaaGreatDoor
open Go.Am Go.Pd
set_option linter.unusedVariables false
set_option maxRecDepth 20000
set_option maxHeartbeats 8000000
attribute [local irreducible] OS LSr ODS CS YS
abbrev tJ : Nat := 110
abbrev tZ : Nat := 100
abbrev tDd : Nat := 33
def ItsA (M : RL) : List It → List Value → Prop
  | [], cs => cs = []
  | x :: r, cs => ∃ a cs', cs = .int .i64 x.no :: str x.word :: a :: cs' ∧ SV 1 M a x.args.length (strs x.args) ∧ ItsA M r cs'
theorem ItsA.mono {M M' : RL} (hm : ∀ p, p ∈ M → p ∈ M') : ∀ {l : List It} {cs : List Value}, ItsA M l cs → ItsA M' l cs
  | [], _, h => h
  | x :: r, _, ⟨a, cs', h1, h2, h3⟩ => ⟨a, cs', h1, h2.up hm, h3.mono hm⟩
theorem ItsA.len {M : RL} : ∀ {l : List It} {cs : List Value}, ItsA M l cs → cs.length = l.length * 3
  | [], _, h => by rw [show _ = [] from h]; rfl
  | x :: r, _, ⟨a, cs', h1, h2, h3⟩ => by rw [h1]; simp [h3.len]; omega
theorem ItsA.snoc {M : RL} {x : It} {a : Value} (hx : SV 1 M a x.args.length (strs x.args)) : ∀ {l : List It} {cs : List Value}, ItsA M l cs → ItsA M (l ++ [x]) (cs ++ [.int .i64 x.no, str x.word, a])
  | [], _, h => by rw [show _ = [] from h]; exact ⟨a, [], rfl, hx, rfl⟩
  | y :: r, _, ⟨b, cs', h1, h2, h3⟩ => ⟨b, _, by rw [h1]; rfl, h2, h3.snoc hx⟩
theorem ItsA.at {M : RL} : ∀ {l : List It} {cs : List Value} {j : Nat} {x : It}, ItsA M l cs → l[j]? = some x → ∃ av, cut cs (j * 3) 3 = some [.int .i64 x.no, str x.word, av] ∧ SV 1 M av x.args.length (strs x.args)
  | [], _, _, _, _, h => by simp at h
  | y :: r, cs, 0, x, ⟨a, cs', h1, h2, h3⟩, h => by
    simp at h; subst h
    refine ⟨a, ?_, h2⟩
    rw [h1]; cases cs' <;> rfl
  | y :: r, cs, j + 1, x, ⟨a, cs', h1, h2, h3⟩, h => by
    obtain ⟨av, h4, h5⟩ := ItsA.at (j := j) h3 (by simpa using h)
    refine ⟨av, ?_, h5⟩
    rw [h1, show (j + 1) * 3 = j * 3 + 1 + 1 + 1 by omega]
    exact h4
def SecsA (M : RL) : List Se → List Value → Prop
  | [], cs => cs = []
  | y :: r, cs => ∃ iv ics cs', cs = secC y.no y.kind y.name iv ++ cs' ∧ (SV 3 M iv y.items.length ics ∧ ItsA M y.items ics) ∧ SecsA M r cs'
theorem SecsA.mono {M M' : RL} (hm : ∀ p, p ∈ M → p ∈ M') : ∀ {l : List Se} {cs : List Value}, SecsA M l cs → SecsA M' l cs
  | [], _, h => h
  | x :: r, _, ⟨iv, ics, cs', h1, h2, h3⟩ => ⟨iv, ics, cs', h1, ⟨h2.1.up hm, h2.2.mono hm⟩, h3.mono hm⟩
theorem SecsA.len {M : RL} : ∀ {l : List Se} {cs : List Value}, SecsA M l cs → cs.length = l.length * 4
  | [], _, h => by rw [show _ = [] from h]; rfl
  | x :: r, _, ⟨iv, ics, cs', h1, h2, h3⟩ => by rw [h1]; simp [h3.len]; omega
theorem SecsA.snoc {M : RL} {y : Se} {iv : Value} {ics : List Value} (hy : SV 3 M iv y.items.length ics ∧ ItsA M y.items ics) : ∀ {l : List Se} {cs : List Value}, SecsA M l cs → SecsA M (l ++ [y]) (cs ++ secC y.no y.kind y.name iv)
  | [], _, h => by rw [show _ = [] from h]; exact ⟨iv, ics, [], rfl, hy, rfl⟩
  | z :: r, _, ⟨jv, jcs, cs', h1, h2, h3⟩ => ⟨jv, jcs, _, by rw [h1]; rfl, h2, h3.snoc hy⟩
theorem SecsA.at {M : RL} : ∀ {l : List Se} {cs : List Value} {j : Nat} {y : Se}, SecsA M l cs → l[j]? = some y → ∃ iv ics, cut cs (j * 4) 4 = some (secC y.no y.kind y.name iv) ∧ SV 3 M iv y.items.length ics ∧ ItsA M y.items ics
  | [], _, _, _, _, h => by simp at h
  | z :: r, cs, 0, y, ⟨iv, ics, cs', h1, h2, h3⟩, h => by
    simp at h; subst h
    refine ⟨iv, ics, ?_, h2⟩
    rw [h1]; cases cs' <;> rfl
  | z :: r, cs, j + 1, y, ⟨iv, ics, cs', h1, h2, h3⟩, h => by
    obtain ⟨iv2, ics2, h4, h5⟩ := SecsA.at (j := j) h3 (by simpa using h)
    refine ⟨iv2, ics2, ?_, h5⟩
    rw [h1, show (j + 1) * 4 = j * 4 + 1 + 1 + 1 + 1 by omega]
    exact h4
def DocA (M : RL) (v : Value) (d : Dc) : Prop := ∃ hv sv hcs scs, v = .agg #[hv, sv] ∧ SV 3 M hv d.head.length hcs ∧ ItsA M d.head hcs ∧ SV 4 M sv d.secs.length scs ∧ SecsA M d.secs scs
theorem ItsR.a {M : RL} : ∀ {l : List It} {cs : List Value}, ItsR M l cs → ItsA M l cs
  | [], _, h => h
  | x :: r, _, ⟨a, cs', h1, h2, h3⟩ => ⟨a, cs', h1, h2.sv, h3.a⟩
theorem SecsR.a {M : RL} : ∀ {l : List Se} {cs : List Value}, SecsR M l cs → SecsA M l cs
  | [], _, h => h
  | x :: r, _, ⟨iv, ics, cs', h1, h2, h3⟩ => ⟨iv, ics, cs', h1, ⟨h2.1, h2.2.a⟩, h3.a⟩
section
variable {F L M : RL} {d : Dc} {v : Value}
theorem DocV.a (h : DocV M v d) : DocA M v d := by
  obtain ⟨hv, sv, hcs, scs, h1, h2, h3, h4, h5⟩ := h
  exact ⟨hv, sv, hcs, scs, h1, h2, h3.a, h4, h5.a⟩
theorem DocA.form (h : DocA M v d) : ∃ A c A' c', v = .agg #[.slice A d.head.length c, .slice A' d.secs.length c'] := by
  obtain ⟨hv, sv, hcs, scs, rfl, h2, h3, h4, h5⟩ := h
  obtain ⟨A, c, rfl⟩ := h2.form
  obtain ⟨A', c', rfl⟩ := h4.form
  exact ⟨_, _, _, _, rfl⟩
theorem itemsBack_ct {l : List It} {lv : Value} {cs : List Value} (hl : SV 3 M lv l.length cs) (hI : ItsA M l cs) (hM : ∀ p, p ∈ M → p ∈ F) (hn : l.length * 48 ≤ 140737488355328) : CS Tryz.prog 43 [lv] F fun v L' => ∃ cs', GV tJ 3 F v l.length cs' L' ∧ ItsA M l cs' := by
  obtain ⟨lA, lc, rfl⟩ := hl.form
  refine CS.mk (fn := Tryz.f43) rfl rfl rfl rfl ?_
  refine yG ?_
  refine LS.loopJ [0, 3, 4] (fun q a L' => ∃ (j : Nat) (out : Value) (cs' : List Value), q = l.length - j ∧ j ≤ l.length ∧ GV tJ 3 F out j cs' L' ∧ ItsA M (l.take j) cs' ∧ a = [.slice lA l.length lc, .chan none, .chan none, out, .int .i64 (j : Nat), .chan none, .chan none, .chan none, .chan none, .chan none, .chan none, .chan none, .chan none, .chan none, .chan none, .chan none, .chan none, .chan none, .chan none, .chan none, .chan none, .chan none, .chan none, .chan none, .chan none, .chan none, .chan none, .chan none, .chan none, .chan none, .chan none]) (n := l.length) rfl ⟨0, _, [], by omega, by omega, GV.nil, rfl, rfl⟩ ?_
  rintro q a L' ⟨j, out, cs', rfl, hj, hg, hA, rfl⟩
  by_cases hjn : j < l.length
  · have hb : (!ileB ((l.length : Nat) : Int) (j : Nat)) = true := by rw [ileB_eq]; simp; omega
    have hxj : l[j]? = some l[j] := List.getElem?_eq_getElem hjn
    have hsn : l.take (j + 1) = l.take j ++ [l[j]] := Go.Pd.take_one hxj
    generalize l[j] = x at hxj hsn
    obtain ⟨xv, hcut, hxv⟩ := hI.at hxj
    obtain ⟨xA, xc, rfl⟩ := hxv.form
    have hlL : SV 3 L' (.slice lA l.length lc) l.length cs := hl.up fun p hp => hg.sup p (hM p hp)
    have hlen := hA.snoc hxv
    have hlen2 := hA.len
    refine yG ?_
    repeat refine LS.seq ?_
    refine LS.drawn noGo mixed [(0, false), (1, false), (2, false), (3, false), (4, false), (5, false), (6, false), (7, false), (8, false), (9, false), (10, false), (11, false), (12, false), (13, false), (14, false), (15, false), (16, false), (17, true), (18, true), (19, false)] rfl rfl (by kernel_rfl) ?_
    refine yG ?_
    refine ODS.at (j := j) hlL hjn rfl rfl rfl rfl rfl rfl rfl (fun r0 o0 row0 cs0 m0 c0 g0 k0 => ?_)
    refine ⟨_, rfl, ?_⟩
    refine yG ?_
    refine ODS.read rfl rfl (e_loadm m0 c0 rfl rfl (part_one rfl (g0 0 (.int .i64 x.no) (by decide) (cut_get hcut (j := 0) rfl)))) rfl ?_
    refine yG ?_
    refine ODS.at (j := j) hlL hjn rfl rfl rfl rfl rfl rfl rfl (fun r1 o1 row1 cs1 m1 c1 g1 k1 => ?_)
    refine ⟨_, rfl, ?_⟩
    refine yG ?_
    refine ODS.read rfl rfl (e_loadm m1 c1 rfl rfl (part_one rfl (g1 1 (str x.word) (by decide) (cut_get hcut (j := 1) rfl)))) rfl ?_
    refine yG ?_
    refine ODS.at (j := j) hlL hjn rfl rfl rfl rfl rfl rfl rfl (fun r2 o2 row2 cs2 m2 c2 g2 k2 => ?_)
    refine ⟨_, rfl, ?_⟩
    refine yG ?_
    refine ODS.read rfl rfl (e_loadm m2 c2 rfl rfl (part_one rfl (g2 2 (.slice xA x.args.length xc) (by decide) (cut_get hcut (j := 2) rfl)))) rfl ?_
    refine yG ?_
    refine ODS.fresh rfl rfl (e_new (fun _ => rfl) rfl) (fun _ => rfl) (fun _ => Keep.gone rfl (Keep.gone rfl (Keep.gone rfl Keep.nil))) (fun rt => ?_)
    refine ODS.fresh rfl rfl (e_appendGV [(rt, _)] (e := tJ) (sz := 3) (bts := 48) (m := 1) hg (SV.row (sz := 3) (n := 1) (List.mem_cons_self ..) rfl) (by omega) rfl rfl rfl rfl (by omega) (by omega)) (fun _ => rfl) (fun _ => Keep.gone rfl (Keep.gone rfl (Keep.gone rfl Keep.nil))) (fun r4 => ?_)
    refine ODS.sub (Sub.drop 1 rfl) ?_
    refine yG ?_
    exact ⟨l.length - (j + 1), by omega, j + 1, _, _, rfl, by omega, .of (by simp [hlen2, List.length_take]; omega), by rw [hsn]; exact hlen, rfl⟩
  · have hb : (!ileB ((l.length : Nat) : Int) (j : Nat)) = false := by rw [ileB_eq]; simp; omega
    rw [List.take_of_length_le (by omega)] at hA
    obtain rfl : j = l.length := by omega
    refine yG ?_
    refine LS.exit ?_
    refine yG ?_
    exact ⟨cs', hg, hA⟩
end
end Go.Proofs.YtllcbjaajffaeaaGreatDoor

/- Layer 4: JournalPlays: what the disk holds, step by step. -/
import Derived.Test.YthfgjedcmhllfaaJr
import Derived.Test.YthfgjedcmhllfaaJi
namespace Go.Proofs.Ythfgjedcmhllfaa
open Go.Am
set_option linter.unusedVariables false
set_option maxRecDepth 20000

theorem behind_out : ∀ {ps : List (Int × List UInt8)} {f : F04} {b : Int}, b ∉ ps.map (·.1) → behind f ps b = f b
  | [], f, b, _ => rfl
  | p :: ps, f, b, h => by
    simp only [List.map_cons, List.mem_cons, not_or] at h
    show behind (upd1 f p) ps b = f b
    rw [behind_out h.2]
    unfold upd1
    rw [if_neg h.1]
theorem behind_in : ∀ {ps : List (Int × List UInt8)} {f : F04} {b : Int} {d : List UInt8}, (ps.map (·.1)).Nodup → (b, d) ∈ ps → behind f ps b = some d
  | [], f, b, d, _, h => by cases h
  | p :: ps, f, b, d, hn, h => by
    simp only [List.map_cons, List.nodup_cons] at hn
    show behind (upd1 f p) ps b = some d
    rcases List.mem_cons.1 h with h | h
    · subst h
      rw [behind_out hn.1]
      unfold upd1
      rw [if_pos rfl]
    · exact behind_in hn.2 h

/-- The plain blocks hold what the document says. -/
def Hold (D : List UInt8) (n : Nat) (f : F04) : Prop := ∀ j : Nat, plainP n j → blk D j = (f j).getD z256
theorem Hold.agree {D : List UInt8} {n : Nat} {f : F04} {zs : List Int} (h : Hold D n f) : Agree D n f zs := fun z hz j hj hp => by
  subst hj; exact h j hp
def Idl (D : List UInt8) : Prop := blk D 1 = zeros
/-- A group counts, and is not yet laid whole. -/
structure Pnd (D : List UInt8) (n : Nat) (f g : F04) (named : List Int) (ps : List (Int × List UInt8)) : Prop where
  ne : ps ≠ []
  good : Good n ps
  len : ps.length ≤ 120
  head : blk D 1 = headB ps
  slots : ∀ i p, ps[i]? = some p → blk D (2 + i) = p.2
  rest : ∀ j : Nat, plainP n j → (j : Int) ∉ ps.map (·.1) → blk D j = (f j).getD z256
  to : g = behind f ps
  told : ∀ p ∈ ps, p.1 ∈ named
structure StA (s : Dk) (f : F04) : Prop where
  ok : s.ok
  live : s.dead = false
  idle : Idl s.D
  hold : Hold s.D s.n f
structure StD (s : Dk) (f g : F04) (named : List Int) : Prop where
  ok : s.ok
  dead : s.dead = true
  hold : (Idl s.D ∧ Hold s.D s.n f) ∨ ∃ ps, Pnd s.D s.n f g named ps

theorem left_ok {c : Bool} {l k : Nat} (h : l ≤ 9223372036854775807) : (if c = true then l - k else l) ≤ 9223372036854775807 := by split <;> omega

theorem do_step {s : Dk} {f : F04} {ps : List (Int × List UInt8)} (hs : StA s f) (hw : s.wr ≤ 800000) : ∃ e s', doD s ps = (e, s') ∧ s'.n = s.n ∧ s.wr ≤ s'.wr ∧ s'.wr ≤ s.wr + 400 ∧
    ((120 < ps.length ∧ e = 3 ∧ s' = s) ∨ (ps.length ≤ 120 ∧ ¬ Good s.n ps ∧ e = 1 ∧ s' = s) ∨
      (ps.length ≤ 120 ∧ Good s.n ps ∧ e = 0 ∧ StA s' (behind f ps) ∧ s'.wr ≤ s.wr + (2 * ps.length + 2) ∧ (ps = [] → s'.wr = s.wr)) ∨
      (ps.length ≤ 120 ∧ Good s.n ps ∧ e = 20 ∧ ∀ named, (∀ p ∈ ps, p.1 ∈ named) → StD s' f (behind f ps) named)) := by
  obtain ⟨hok, hd, hi, hh⟩ := hs
  obtain ⟨h1, h2, h3, h4, h5⟩ := hok
  by_cases hl : 120 < ps.length
  · exact ⟨_, _, doD_full hd hl, rfl, Nat.le_refl _, by omega, .inl ⟨hl, rfl, rfl⟩⟩
  have hl : ps.length ≤ 120 := by omega
  by_cases hg : Good s.n ps
  case neg => exact ⟨_, _, doD_bad hd hg hl, rfl, Nat.le_refl _, by omega, .inr (.inl ⟨hl, hg, rfl, rfl⟩)⟩
  by_cases h0 : ps = []
  · subst h0
    exact ⟨_, _, doD_empty hd, rfl, Nat.le_refl _, by omega, .inr (.inr (.inl ⟨hl, hg, rfl, ⟨⟨h1, h2, h3, h4, h5⟩, hd, hi, hh⟩, by omega, fun _ => rfl⟩))⟩
  have hfit := hg.fitDo h2 hl
  by_cases hc : s.cut = true ∧ s.left < 2 * ps.length + 2
  · obtain ⟨hc1, hc2⟩ := hc
    have hcut : doD s ps = (20, ⟨s.n, wrs s.D ((doW ps).take s.left), s.wr + s.left, true, 0, true⟩) := by
      rw [doD_good hd hg hl h0, runW_cut hd hfit hc1 (by rw [doW_len]; exact hc2)]
    refine ⟨_, _, hcut, rfl, by show s.wr ≤ s.wr + s.left; omega, by show s.wr + s.left ≤ s.wr + 400; omega, .inr (.inr (.inr ⟨hl, hg, rfl, fun named hn => ?_⟩))⟩
    by_cases hk : s.left ≤ ps.length
    · obtain ⟨a1, a2, a3⟩ := lay_some (k := s.left) hg h2 hl h1 hk
      exact ⟨ok_of a1 h2 h3 (by omega) (by omega), rfl, .inl ⟨a2.trans hi, fun j hj => by show blk (wrs s.D ((doW ps).take s.left)) j = _; rw [a3 j hj]; exact hh j hj⟩⟩
    · obtain ⟨m, hm⟩ : ∃ m, s.left = ps.length + 1 + m := ⟨s.left - (ps.length + 1), by omega⟩
      obtain ⟨a1, a2, a3, a4⟩ := do_some (m := m) hg h2 hl h1 (by omega)
      rw [← hm] at a1 a2 a3 a4
      exact ⟨ok_of a1 h2 h3 (by omega) (by omega), rfl, .inr ⟨ps, h0, hg, hl, a2, a3, fun j hj hno => by show blk (wrs s.D ((doW ps).take s.left)) j = _; rw [a4 j hj hno]; exact hh j hj, rfl, hn⟩⟩
  · obtain ⟨a1, a2, a3, a4⟩ := do_all hg h2 hl h1
    refine ⟨0, ⟨s.n, wrs s.D (doW ps), s.wr + (2 * ps.length + 2), s.cut, if s.cut = true then s.left - (2 * ps.length + 2) else s.left, false⟩, ?_, rfl, by show s.wr ≤ s.wr + _; omega, by show s.wr + _ ≤ s.wr + 400; omega, .inr (.inr (.inl ⟨hl, hg, rfl, ⟨ok_of a1 h2 h3 (by omega) (left_ok h5), rfl, a2, fun j hj => ?_⟩, Nat.le_refl _, fun h => absurd h h0⟩))⟩
    · rw [doD_good hd hg hl h0, runW_all hd hfit (fun hc' => by rw [doW_len]; exact Nat.le_of_not_lt fun h => hc ⟨hc', h⟩), doW_len]
    · show blk (wrs s.D (doW ps)) j = _
      by_cases hm : (j : Int) ∈ ps.map (·.1)
      · obtain ⟨p, hp, hpj⟩ := List.mem_map.1 hm
        obtain ⟨b, d⟩ := p
        simp only at hpj
        subst hpj
        rw [a3 j d hp, behind_in hg.2 hp]; rfl
      · rw [a4 j hj hm, behind_out hm]; exact hh j hj

theorem runW_one {s : Dk} {w : Int × List UInt8} : runW s [w] = wrD s w.1 w.2 := by
  simp only [runW]
  split
  · rename_i h; rw [← h]
  · rfl
theorem good_one {n : Nat} {b : Int} {d : List UInt8} : Good n [(b, d)] ↔ plainP n b ∧ d.length = 256 := by
  constructor
  · intro h; exact h.1 (b, d) (by simp)
  · intro h; exact ⟨fun p hp => by rw [List.mem_singleton.1 hp]; exact h, by simp⟩

theorem raw_step {s : Dk} {f : F04} {b : Int} {d : List UInt8} (hs : StA s f) (hw : s.wr ≤ 800000) : ∃ e s', rawD s b d = (e, s') ∧ s'.n = s.n ∧ s.wr ≤ s'.wr ∧ s'.wr ≤ s.wr + 400 ∧
    ((¬ Good s.n [(b, d)] ∧ e = 1 ∧ s' = s) ∨ (Good s.n [(b, d)] ∧ e = 0 ∧ StA s' (behind f [(b, d)])) ∨ (Good s.n [(b, d)] ∧ e = 20 ∧ ∀ g named, StD s' f g named)) := by
  obtain ⟨hok, hd, hi, hh⟩ := hs
  obtain ⟨h1, h2, h3, h4, h5⟩ := hok
  have hraw : rawD s b d = if plainP s.n b then wrD s b d else (1, s) := by unfold rawD; rw [if_neg (by simp [hd])]
  by_cases hp : plainP s.n b
  case neg => exact ⟨1, s, by rw [hraw, if_neg hp], rfl, Nat.le_refl _, by omega, .inl ⟨fun h => hp (good_one.1 h).1, rfl, rfl⟩⟩
  rw [if_pos hp] at hraw
  by_cases hl : d.length = 256
  case neg =>
    refine ⟨1, s, ?_, rfl, Nat.le_refl _, by omega, .inl ⟨fun h => hl (good_one.1 h).2, rfl, rfl⟩⟩
    rw [hraw]
    unfold wrD
    rw [if_neg (by simp [hd]), if_pos (fun h => hl h.2.2)]
  have hg : Good s.n [(b, d)] := good_one.2 ⟨hp, hl⟩
  have hfit := hg.fit h2
  have hrun : rawD s b d = runW s [(b, d)] := by rw [hraw, runW_one]
  by_cases hc : s.cut = true ∧ s.left < 1
  · obtain ⟨hc1, hc2⟩ := hc
    have hl0 : s.left = 0 := by omega
    refine ⟨20, ⟨s.n, s.D, s.wr + 0, true, 0, true⟩, ?_, rfl, Nat.le_refl _, by show s.wr + 0 ≤ _; omega, .inr (.inr ⟨hg, rfl, fun g named => ⟨ok_of h1 h2 h3 (by omega) (by omega), rfl, .inl ⟨hi, hh⟩⟩⟩)⟩
    rw [hrun, runW_cut hd hfit hc1 hc2, hl0]
    rfl
  · have hlen : (wrs s.D [(b, d)]).length = s.n * 256 := wrs_len h1 hfit
    refine ⟨0, ⟨s.n, wrs s.D [(b, d)], s.wr + 1, s.cut, if s.cut = true then s.left - 1 else s.left, false⟩, ?_, rfl, by show s.wr ≤ s.wr + 1; omega, by show s.wr + 1 ≤ s.wr + 400; omega, .inr (.inl ⟨hg, rfl, ⟨ok_of hlen h2 h3 (by omega) (left_ok h5), rfl, ?_, fun j hj => ?_⟩⟩)⟩
    · rw [hrun, runW_all hd hfit (fun hc' => Nat.le_of_not_lt fun h => hc ⟨hc', h⟩)]
      rfl
    · show blk (wrs s.D [(b, d)]) 1 = zeros
      rw [blk_wrs_ne h1 hfit (fun w hw => by rw [List.mem_singleton.1 hw]; exact (plain_far hp).1)]
      exact hi
    · show blk (wrs s.D [(b, d)]) j = (behind f [(b, d)] j).getD z256
      by_cases hj2 : b = (j : Int)
      · subst hj2
        rw [behind_in hg.2 (List.mem_singleton.2 rfl)]
        exact blk_wrs_at (j := j) (us := []) (vs := []) h1 hfit (fun w hw => by cases hw)
      · rw [blk_wrs_ne h1 hfit (fun w hw => by rw [List.mem_singleton.1 hw]; exact hj2), behind_out (by simp; exact fun h => hj2 h.symm)]
        exact hh j hj

/-- Opening, with a group that counts: it is finished, or cut again. -/
theorem open_step {s : Dk} {f g : F04} {named : List Int} {ps : List (Int × List UInt8)} (hok : s.ok) (hd : s.dead = false) (hp : Pnd s.D s.n f g named ps) (hw : s.wr ≤ 800000) : ∃ e s', runW s (finW ps) = (e, s') ∧ s'.n = s.n ∧ s.wr ≤ s'.wr ∧ s'.wr ≤ s.wr + 400 ∧
    ((e = 0 ∧ StA s' g) ∨ (e = 20 ∧ StD s' f g named)) := by
  obtain ⟨h1, h2, h3, h4, h5⟩ := hok
  obtain ⟨h0, hg, hl, hhead, hslots, hrest, hto, htold⟩ := hp
  have hfit := hg.fitFin h2
  by_cases hc : s.cut = true ∧ s.left < ps.length + 1
  · obtain ⟨hc1, hc2⟩ := hc
    obtain ⟨a1, a2, a3, a4⟩ := fin_some (m := s.left) hg h2 hl h1 (by omega)
    refine ⟨20, ⟨s.n, wrs s.D ((finW ps).take s.left), s.wr + s.left, true, 0, true⟩, runW_cut hd hfit hc1 (by rw [finW_len]; exact hc2), rfl, by show s.wr ≤ s.wr + _; omega, by show s.wr + s.left ≤ _; omega, .inr ⟨rfl, ok_of a1 h2 h3 (by omega) (by omega), rfl, .inr ⟨ps, h0, hg, hl, a2.trans hhead, fun i p hi => ?_, fun j hj hno => ?_, hto, htold⟩⟩⟩
    · have hil : i < ps.length := (List.getElem?_eq_some_iff.1 hi).1
      show blk (wrs s.D ((finW ps).take s.left)) (2 + i) = p.2
      rw [a3 i (by omega)]
      exact hslots i p hi
    · show blk (wrs s.D ((finW ps).take s.left)) j = _
      rw [a4 j hno]
      exact hrest j hj hno
  · obtain ⟨a1, a2, a3, a4⟩ := fin_all hg h2 hl h1
    refine ⟨0, ⟨s.n, wrs s.D (finW ps), s.wr + (ps.length + 1), s.cut, if s.cut = true then s.left - (ps.length + 1) else s.left, false⟩, ?_, rfl, by show s.wr ≤ s.wr + _; omega, by show s.wr + _ ≤ s.wr + 400; omega, .inl ⟨rfl, ok_of a1 h2 h3 (by omega) (left_ok h5), rfl, a2, fun j hj => ?_⟩⟩
    · rw [runW_all hd hfit (fun hc' => by rw [finW_len]; exact Nat.le_of_not_lt fun h => hc ⟨hc', h⟩), finW_len]
    · show blk (wrs s.D (finW ps)) j = (g j).getD z256
      rw [hto]
      by_cases hm : (j : Int) ∈ ps.map (·.1)
      · obtain ⟨p, hp, hpj⟩ := List.mem_map.1 hm
        obtain ⟨b, d⟩ := p
        simp only at hpj
        subst hpj
        rw [a3 j d hp, behind_in hg.2 hp]; rfl
      · rw [a4 j (fun e => (plain_far hj).1 (by omega)) hm, behind_out hm]; exact hrest j hj hm

/-- Where the blocks that were named agree with what was, they hold what was. -/
theorem agree_back {D D' : List UInt8} {n : Nat} {f g : F04} {named : List Int} {ps : List (Int × List UInt8)} (hp : Pnd D n f g named ps) (hh : Hold D' n g) (ha : Agree D' n f named) : Hold D' n f := fun j hj => by
  by_cases hm : (j : Int) ∈ ps.map (·.1)
  · obtain ⟨p, hp2, hpj⟩ := List.mem_map.1 hm
    exact ha _ (hp.told p hp2) j hpj (by rw [hpj]; exact hj) |>.trans (by rw [hpj])
  · rw [hh j hj, hp.to, behind_out hm]
end Go.Proofs.Ythfgjedcmhllfaa

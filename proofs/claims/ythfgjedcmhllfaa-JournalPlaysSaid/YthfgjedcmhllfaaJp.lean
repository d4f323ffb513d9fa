/- Layer 4: the document's blocks: Check, Behind. -/
import Derived.Test.YthfgjedcmhllfaaJo
namespace Go.Proofs.Ythfgjedcmhllfaa
open Go.Am
set_option linter.unusedVariables false
set_option maxRecDepth 20000

theorem bCheck_full {L : RL} {x l : Value} {n : Nat} {gs : List Gw} (hl : SV 2 L l n (gcells gs)) (hn : 120 < n) : CS Try.prog 34 [x, l] L fun v L' => v = .int .i64 3 ∧ L' = L := by
  have hb : (!ileB (n : Int) 120) = true := by rw [ileB_eq]; simp; omega
  refine CS.mk (fn := Try.f34) rfl rfl rfl rfl ?_
  repeat refine LS.seq ?_
  refine LS.region rfl ?_
  refine OS.pure rfl (fun _ => rfl) rfl ?_
  refine OS.nil ?_
  repeat refine LS.seq ?_
  refine LS.region rfl ?_
  refine OS.pure rfl (fun _ => rfl) rfl ?_
  refine OS.pure rfl (e_len hl rfl rfl rfl rfl rfl) rfl ?_
  refine OS.pure rfl (e_is (fun _ => rfl) (congrArg Value.bool hb)) rfl ?_
  refine OS.nil ?_
  refine LS.cond rfl (fun hc => ?_) (fun hc => by cases hc)
  repeat refine LS.seq ?_
  refine LS.region rfl ?_
  refine OS.pure rfl (fun _ => rfl) rfl ?_
  refine OS.nil ?_
  refine LS.ret ⟨_, fun _ _ => rfl, ?_⟩
  exact ⟨rfl, rfl⟩

set_option maxHeartbeats 1000000 in
theorem bCheck_ct {L : RL} {r n0 : Nat} {f : F04} {l : Value} {n : Nat} {gs : List Gw} (hx : BlkAt L r n0 f) (hn0 : 512 ≤ n0) (hl : SV 2 L l n (gcells gs)) (hd : Reads L gs) (hn : n ≤ 120) :
    CS Try.prog 34 [ptr r, l] L fun v L' => (v = .int .i64 0 ∧ Good n0 (bd gs) ∨ v = .int .i64 1 ∧ ¬ Good n0 (bd gs)) ∧ L' = L := by
  have hlen := gs_len hl
  have hbl : (bd gs).length = n := by rw [bd_len]; exact hlen
  have hb : (!ileB (n : Int) 120) = false := by rw [ileB_eq]; simp; omega
  refine CS.mk (fn := Try.f34) rfl rfl rfl rfl ?_
  repeat refine LS.seq ?_
  refine LS.region rfl ?_
  refine OS.pure rfl (fun _ => rfl) rfl ?_
  refine OS.nil ?_
  repeat refine LS.seq ?_
  refine LS.region rfl ?_
  refine OS.pure rfl (fun _ => rfl) rfl ?_
  refine OS.pure rfl (e_len hl rfl rfl rfl rfl rfl) rfl ?_
  refine OS.pure rfl (e_is (fun _ => rfl) (congrArg Value.bool hb)) rfl ?_
  refine OS.nil ?_
  refine LS.cond rfl (fun hc => by cases hc) (fun hc => ?_)
  refine LS.skip ?_
  repeat refine LS.seq ?_
  refine LS.region rfl ?_
  refine OS.pure rfl (fun _ => rfl) rfl ?_
  refine OS.nil ?_
  repeat refine LS.seq ?_
  refine LS.block ?_
  refine LS.loopJ [0, 1, 5] (fun q a L' => ∃ i, q = n - i ∧ i ≤ n ∧ Good n0 ((bd gs).take i) ∧ L' = L ∧
    a = [ptr r, l, .chan none, .chan none, .chan none, .int .i64 (i : Nat), .chan none, .chan none, .chan none, .chan none, .chan none, .chan none, .chan none, .chan none, .chan none, .chan none, .chan none, .chan none, .chan none, .chan none, .chan none, .chan none, .chan none, .chan none, .chan none, .chan none, .chan none, .chan none, .chan none, .chan none, .chan none, .chan none, .chan none, .chan none, .chan none, .chan none, .chan none, .chan none, .chan none, .chan none, .chan none, .chan none, .chan none, .chan none, .chan none, .chan none, .chan none, .chan none, .chan none]) (n := n) rfl ⟨0, rfl, by omega, ⟨fun p hp => (by cases hp), .nil⟩, rfl, rfl⟩ ?_
  rintro q a L' ⟨i, rfl, hi, hgood, hLL, rfl⟩
  have hLL := hLL.symm
  subst hLL
  repeat refine LS.seq ?_
  refine LS.region rfl ?_
  refine OS.pure rfl (fun _ => rfl) rfl ?_
  refine OS.pure rfl (fun _ => rfl) rfl ?_
  refine OS.pure rfl (e_len hl rfl rfl rfl rfl rfl) rfl ?_
  refine OS.pure rfl (fun _ => rfl) rfl ?_
  refine OS.nil ?_
  repeat refine LS.seq ?_
  refine LS.cond rfl (fun hc => ?_) (fun hc => ?_)
  · have hc : (i : Int) < n := lt_of hc
    have hin : i < n := by omega
    have hg : gs[i]? = some gs[i] := List.getElem?_eq_getElem (by omega)
    have hmem : gs[i] ∈ gs := List.getElem_mem (by omega)
    generalize gs[i] = g at hg hmem
    obtain ⟨m, hgv⟩ := hd g hmem
    have hml : g.d.length = m := by have := hgv.len; rw [byteCells_len] at this; omega
    have hbg := bd_get hg
    have hsucc := good_succ (n := n0) hbg
    have hback : ¬ Good n0 ((bd gs).take (i + 1)) → ¬ Good n0 (bd gs) := fun h h' => h h'.take
    refine LS.skip ?_
    repeat refine LS.seq ?_
    refine LS.block ?_
    by_cases hpl : plainP n0 g.b
    case neg =>
      repeat refine LS.seq ?_
      refine LS.region rfl ?_
      refine OS.pure rfl (fun _ => rfl) rfl ?_
      refine OS.pure rfl (fun _ => rfl) rfl ?_
      refine OS.pure rfl (fun _ => rfl) rfl ?_
      refine OS.at (j := i) hl hin rfl rfl rfl rfl rfl rfl (fun r0 o0 row0 cs0 m0 c0 g0 k0 => ?_)
      refine ⟨_, rfl, ?_⟩
      refine OS.pure rfl (fun _ => rfl) rfl ?_
      refine OS.read rfl (e_loadm m0 c0 rfl rfl (part_one rfl (g0 0 _ (by omega) (pc_at (gp gs) i 0 _ (gp_get hg) (by omega))))) rfl ?_
      refine OS.call noGo rfl (fun _ => rfl) ((bPlain_ct hx hn0 g.b).mono ?_)
      rintro v L' ⟨rfl, rfl⟩
      rw [decide_eq_false hpl]
      refine ⟨_, rfl, ?_⟩
      refine OS.pure rfl (fun _ => rfl) rfl ?_
      refine OS.pure rfl (fun _ => rfl) rfl ?_
      refine OS.skip rfl rfl ?_
      refine OS.skip rfl rfl ?_
      refine OS.skip rfl rfl ?_
      refine OS.skip rfl rfl ?_
      refine OS.skip rfl rfl ?_
      refine OS.skip rfl rfl ?_
      refine OS.skip rfl rfl ?_
      refine OS.pure rfl (fun _ => rfl) rfl ?_
      refine OS.nil ?_
      refine LS.cond rfl (fun hc => ?_) (fun hc => by cases hc)
      repeat refine LS.seq ?_
      refine LS.region rfl ?_
      refine OS.pure rfl (fun _ => rfl) rfl ?_
      refine OS.nil ?_
      refine LS.ret ⟨_, fun _ _ => rfl, ?_⟩
      exact ⟨.inr ⟨rfl, hback (fun h => hpl (hsucc.1 h).2.1)⟩, rfl⟩
    by_cases hm : m = 256
    case neg =>
      have hq : (!ieqB ((m : Nat) : Int) 256) = true := by rw [ieqB_eq]; simp; omega
      repeat refine LS.seq ?_
      refine LS.region rfl ?_
      refine OS.pure rfl (fun _ => rfl) rfl ?_
      refine OS.pure rfl (fun _ => rfl) rfl ?_
      refine OS.pure rfl (fun _ => rfl) rfl ?_
      refine OS.at (j := i) hl hin rfl rfl rfl rfl rfl rfl (fun r0 o0 row0 cs0 m0 c0 g0 k0 => ?_)
      refine ⟨_, rfl, ?_⟩
      refine OS.pure rfl (fun _ => rfl) rfl ?_
      refine OS.read rfl (e_loadm m0 c0 rfl rfl (part_one rfl (g0 0 _ (by omega) (pc_at (gp gs) i 0 _ (gp_get hg) (by omega))))) rfl ?_
      refine OS.call noGo rfl (fun _ => rfl) ((bPlain_ct hx hn0 g.b).mono ?_)
      rintro v L' ⟨rfl, rfl⟩
      rw [decide_eq_true hpl]
      refine ⟨_, rfl, ?_⟩
      refine OS.pure rfl (fun _ => rfl) rfl ?_
      refine OS.pure rfl (fun _ => rfl) rfl ?_
      refine OS.pure rfl (fun _ => rfl) rfl ?_
      refine OS.pure rfl (fun _ => rfl) rfl ?_
      refine OS.at (j := i) hl hin rfl rfl rfl rfl rfl rfl (fun r1 o1 row1 cs1 m1 c1 g1 k1 => ?_)
      refine ⟨_, rfl, ?_⟩
      refine OS.pure rfl (fun _ => rfl) rfl ?_
      refine OS.read rfl (e_loadm m1 c1 rfl rfl (part_one rfl (g1 1 _ (by omega) (pc_at (gp gs) i 1 _ (gp_get hg) (by omega))))) rfl ?_
      refine OS.pure rfl (e_len hgv rfl rfl rfl rfl rfl) rfl ?_
      refine OS.pure rfl (e_is (fun _ => rfl) (congrArg Value.bool hq)) rfl ?_
      refine OS.pure rfl (fun _ => rfl) rfl ?_
      refine OS.nil ?_
      refine LS.cond rfl (fun hc => ?_) (fun hc => by cases hc)
      repeat refine LS.seq ?_
      refine LS.region rfl ?_
      refine OS.pure rfl (fun _ => rfl) rfl ?_
      refine OS.nil ?_
      refine LS.ret ⟨_, fun _ _ => rfl, ?_⟩
      exact ⟨.inr ⟨rfl, hback (fun h => hm (by have : g.d.length = 256 := (hsucc.1 h).2.2.1; omega))⟩, rfl⟩
    have hq : (!ieqB ((m : Nat) : Int) 256) = false := by rw [ieqB_eq, hm]; rfl
    repeat refine LS.seq ?_
    refine LS.region rfl ?_
    refine OS.pure rfl (fun _ => rfl) rfl ?_
    refine OS.pure rfl (fun _ => rfl) rfl ?_
    refine OS.pure rfl (fun _ => rfl) rfl ?_
    refine OS.at (j := i) hl hin rfl rfl rfl rfl rfl rfl (fun r0 o0 row0 cs0 m0 c0 g0 k0 => ?_)
    refine ⟨_, rfl, ?_⟩
    refine OS.pure rfl (fun _ => rfl) rfl ?_
    refine OS.read rfl (e_loadm m0 c0 rfl rfl (part_one rfl (g0 0 _ (by omega) (pc_at (gp gs) i 0 _ (gp_get hg) (by omega))))) rfl ?_
    refine OS.call noGo rfl (fun _ => rfl) ((bPlain_ct hx hn0 g.b).mono ?_)
    rintro v L' ⟨rfl, hLL⟩
    have hLL := hLL.symm
    subst hLL
    rw [decide_eq_true hpl]
    refine ⟨_, rfl, ?_⟩
    refine OS.pure rfl (fun _ => rfl) rfl ?_
    refine OS.pure rfl (fun _ => rfl) rfl ?_
    refine OS.pure rfl (fun _ => rfl) rfl ?_
    refine OS.pure rfl (fun _ => rfl) rfl ?_
    refine OS.at (j := i) hl hin rfl rfl rfl rfl rfl rfl (fun r1 o1 row1 cs1 m1 c1 g1 k1 => ?_)
    refine ⟨_, rfl, ?_⟩
    refine OS.pure rfl (fun _ => rfl) rfl ?_
    refine OS.read rfl (e_loadm m1 c1 rfl rfl (part_one rfl (g1 1 _ (by omega) (pc_at (gp gs) i 1 _ (gp_get hg) (by omega))))) rfl ?_
    refine OS.pure rfl (e_len hgv rfl rfl rfl rfl rfl) rfl ?_
    refine OS.pure rfl (e_is (fun _ => rfl) (congrArg Value.bool hq)) rfl ?_
    refine OS.pure rfl (fun _ => rfl) rfl ?_
    refine OS.nil ?_
    refine LS.cond rfl (fun hc => by cases hc) (fun hc => ?_)
    refine LS.skip ?_
    repeat refine LS.seq ?_
    refine LS.region rfl ?_
    refine OS.pure rfl (fun _ => rfl) rfl ?_
    refine OS.nil ?_
    repeat refine LS.seq ?_
    refine LS.block ?_
    refine LS.loopJ [0, 1, 5, 6] (fun q a L' => ∃ k, q = i - k ∧ k ≤ i ∧ (∀ z p, z < k → (bd gs)[z]? = some p → p.1 ≠ g.b) ∧ L' = L ∧
      a = [ptr r, l, .chan none, .chan none, .chan none, .int .i64 (i : Nat), .int .i64 (k : Nat), .chan none, .chan none, .chan none, .chan none, .chan none, .chan none, .chan none, .chan none, .chan none, .chan none, .chan none, .chan none, .chan none, .chan none, .chan none, .chan none, .chan none, .chan none, .chan none, .chan none, .chan none, .chan none, .chan none, .chan none, .chan none, .chan none, .chan none, .chan none, .chan none, .chan none, .chan none, .chan none, .chan none, .chan none, .chan none, .chan none, .chan none, .chan none, .chan none, .chan none, .chan none, .chan none]) (n := i) rfl ⟨0, rfl, by omega, (fun z p h => absurd h (Nat.not_lt_zero _)), rfl, rfl⟩ ?_
    rintro q a L' ⟨k, rfl, hk, hne, hLL, rfl⟩
    have hLL := hLL.symm
    subst hLL
    repeat refine LS.seq ?_
    refine LS.region rfl ?_
    refine OS.pure rfl (fun _ => rfl) rfl ?_
    refine OS.pure rfl (fun _ => rfl) rfl ?_
    refine OS.pure rfl (fun _ => rfl) rfl ?_
    refine OS.nil ?_
    repeat refine LS.seq ?_
    refine LS.cond rfl (fun hc2 => ?_) (fun hc2 => ?_)
    · have hc2 : (k : Int) < i := lt_of hc2
      have hki : k < i := by omega
      have hgk : gs[k]? = some gs[k] := List.getElem?_eq_getElem (by omega)
      generalize gs[k] = gk at hgk
      have hbk := bd_get hgk
      refine LS.skip ?_
      repeat refine LS.seq ?_
      refine LS.block ?_
      repeat refine LS.seq ?_
      refine LS.drawn noGo mixed [(0, false), (1, false), (2, false), (3, false), (4, false), (5, false), (6, false), (7, false), (8, false), (9, false), (10, false)] rfl rfl (by kernel_rfl) ?_
      refine ODS.pure rfl rfl (fun _ => rfl) rfl ?_
      refine ODS.pure rfl rfl (fun _ => rfl) rfl ?_
      refine ODS.at (j := k) hl (show k < n by omega) rfl rfl rfl rfl rfl rfl rfl (fun r2 o2 row2 cs2 m2 c2 g2 k2 => ?_)
      refine ⟨_, rfl, ?_⟩
      refine ODS.pure rfl rfl (fun _ => rfl) rfl ?_
      refine ODS.read rfl rfl (e_loadm m2 c2 rfl rfl (part_one rfl (g2 0 _ (by omega) (pc_at (gp gs) k 0 _ (gp_get hgk) (by omega))))) rfl ?_
      refine ODS.pure rfl rfl (fun _ => rfl) rfl ?_
      refine ODS.pure rfl rfl (fun _ => rfl) rfl ?_
      refine ODS.at (j := i) hl hin rfl rfl rfl rfl rfl rfl rfl (fun r3 o3 row3 cs3 m3 c3 g3 k3 => ?_)
      refine ⟨_, rfl, ?_⟩
      refine ODS.pure rfl rfl (fun _ => rfl) rfl ?_
      refine ODS.read rfl rfl (e_loadm m3 c3 rfl rfl (part_one rfl (g3 0 _ (by omega) (pc_at (gp gs) i 0 _ (gp_get hg) (by omega))))) rfl ?_
      by_cases he : gk.b = g.b
      · have hq2 : ieqB gk.b g.b = true := by rw [ieqB_eq, he]; simp
        refine ODS.pure rfl rfl (e_is (fun _ => rfl) (congrArg Value.bool hq2)) rfl ?_
        refine ODS.nil ?_
        refine LS.cond rfl (fun hc => ?_) (fun hc => by cases hc)
        repeat refine LS.seq ?_
        refine LS.region rfl ?_
        refine OS.pure rfl (fun _ => rfl) rfl ?_
        refine OS.nil ?_
        refine LS.ret ⟨_, fun _ _ => rfl, ?_⟩
        refine ⟨.inr ⟨rfl, hback (fun h => (hsucc.1 h).2.2.2 (List.mem_map.2 ⟨(gk.b, gk.d), ?_, he⟩))⟩, rfl⟩
        exact List.mem_of_getElem? (i := k) (by rw [List.getElem?_take, if_pos hki]; exact hbk)
      · have hq2 : ieqB gk.b g.b = false := by rw [ieqB_eq]; simpa using he
        refine ODS.pure rfl rfl (e_is (fun _ => rfl) (congrArg Value.bool hq2)) rfl ?_
        refine ODS.nil ?_
        refine LS.cond rfl (fun hc => by cases hc) (fun hc => ?_)
        refine LS.skip ?_
        repeat refine LS.seq ?_
        refine LS.region rfl ?_
        refine OS.pure rfl (fun _ => rfl) rfl ?_
        refine OS.pure rfl (e_add rfl rfl rfl (in_i64 (by omega) (by omega))) rfl ?_
        refine OS.pure rfl (fun _ => rfl) rfl ?_
        refine OS.nil ?_
        refine ⟨i - (k + 1), by omega, k + 1, rfl, by omega, fun z p hz hp => ?_, rfl, rfl⟩
        by_cases hzk : z = k
        · subst hzk
          rw [hbk] at hp
          rw [← Option.some.inj hp]; exact he
        · exact hne z p (by omega) hp
    have hc2 : (i : Int) ≤ k := nlt_of hc2
    have hki : k = i := by omega
    subst hki
    refine LS.exit ?_
    repeat refine LS.seq ?_
    refine LS.region rfl ?_
    refine OS.pure rfl (fun _ => rfl) rfl ?_
    refine OS.pure rfl (e_add rfl rfl rfl (in_i64 (by omega) (by omega))) rfl ?_
    refine OS.pure rfl (fun _ => rfl) rfl ?_
    refine OS.nil ?_
    refine ⟨n - (k + 1), by omega, k + 1, rfl, by omega, hsucc.2 ⟨hgood, hpl, show g.d.length = 256 by omega, fun hm => ?_⟩, rfl, rfl⟩
    obtain ⟨p, hp, hpe⟩ := List.mem_map.1 hm
    obtain ⟨z, hz, hze⟩ := List.getElem_of_mem hp
    have hzk : z < k := by simp at hz; omega
    refine hne z p hzk ?_ hpe
    have : ((bd gs).take k)[z]? = some p := by rw [List.getElem?_eq_getElem hz, hze]
    rwa [List.getElem?_take, if_pos hzk] at this
  have hc : (n : Int) ≤ i := nlt_of hc
  have hin : i = n := by omega
  subst hin
  rw [← hbl, List.take_length] at hgood
  refine LS.exit ?_
  repeat refine LS.seq ?_
  refine LS.region rfl ?_
  refine OS.pure rfl (fun _ => rfl) rfl ?_
  refine OS.nil ?_
  refine LS.ret ⟨_, fun _ _ => rfl, ?_⟩
  exact ⟨.inl ⟨rfl, hgood⟩, rfl⟩

def upd1 (f : F04) (p : Int × List UInt8) : F04 := fun x => if x = p.1 then some p.2 else f x
def behind (f : F04) (ps : List (Int × List UInt8)) : F04 := ps.foldl upd1 f
theorem behind_succ {f : F04} {ps : List (Int × List UInt8)} {i : Nat} {p : Int × List UInt8} (h : ps[i]? = some p) : behind f (ps.take (i + 1)) = upd1 (behind f (ps.take i)) p := by
  rw [List.take_add_one, h]; simp [behind]
open Classical in
/-- What has been handed out so far. -/
noncomputable def fpart (f : F04) (es : List MapEntry) (seen : List Nat) : F04 := fun b => if ∃ e ∈ es, e.key = .int .i64 b ∧ e.born ∈ seen then f b else none
theorem fpart_nil {f : F04} {es : List MapEntry} : fpart f es [] = fun _ => none := by
  funext b; unfold fpart; rw [if_neg]; rintro ⟨e, _, _, h⟩; cases h
theorem fpart_all {f : F04} {es : List MapEntry} {clock : Nat} {seen : List Nat} (F : Fm es clock f) (h : ∀ e ∈ es, e.born ∈ seen) : fpart f es seen = f := by
  funext b
  unfold fpart
  split
  · rfl
  · rename_i hno
    rcases F.get b with ⟨hf, _⟩ | ⟨d, j, hf, hn⟩
    · exact hf.symm
    · have hj0 : j = 0 + j := by omega
      rw [hj0] at hn
      obtain ⟨e, he, hk, _⟩ := find_at hn
      have hm := List.mem_of_getElem? he
      exact absurd ⟨e, hm, hk, h e hm⟩ hno
theorem fpart_step {f : F04} {es : List MapEntry} {clock : Nat} {seen : List Nat} {e : MapEntry} {b : Int} {d : List UInt8} (F : Fm es clock f) (he : e ∈ es) (hk : e.key = .int .i64 b) (hf : f b = some d) :
    (fun x => if x = b then some d else fpart f es seen x) = fpart f es (seen ++ [e.born]) := by
  funext x
  by_cases hx : x = b
  · subst hx
    rw [if_pos rfl]
    unfold fpart
    rw [if_pos ⟨e, he, hk, by simp⟩, hf]
  · rw [if_neg hx]
    unfold fpart
    by_cases hs : ∃ e' ∈ es, e'.key = .int .i64 x ∧ e'.born ∈ seen
    · obtain ⟨e', h1, h2, h3⟩ := hs
      rw [if_pos ⟨e', h1, h2, h3⟩, if_pos ⟨e', h1, h2, by simp [h3]⟩]
    · rw [if_neg hs, if_neg]
      rintro ⟨e', h1, h2, h3⟩
      rcases List.mem_append.1 h3 with h3 | h3
      · exact hs ⟨e', h1, h2, h3⟩
      · obtain ⟨i, hi, hie⟩ := List.getElem_of_mem h1
        obtain ⟨j, hj, hje⟩ := List.getElem_of_mem he
        have hij := F.bor i j e' e (by rw [List.getElem?_eq_getElem hi, hie]) (by rw [List.getElem?_eq_getElem hj, hje]) (List.mem_singleton.1 h3)
        subst hij
        rw [hie] at hje
        subst hje
        rw [h2] at hk
        exact hx (by injection hk)

set_option maxHeartbeats 1000000 in
theorem bBehind_ct {L : RL} {r n0 : Nat} {f : F04} {l : Value} {n : Nat} {gs : List Gw} (hx : BlkAt L r n0 f) (hl : SV 2 L l n (gcells gs)) (hd : Reads L gs) (hn : n ≤ 1000000) :
    CS Try.prog 35 [ptr r, l] L fun v L' => ∃ ry X, v = ptr ry ∧ L' = X ++ L ∧ BlkAt X ry n0 (behind f (bd gs)) := by
  have hlen := gs_len hl
  have hbl : (bd gs).length = n := by rw [bd_len]; exact hlen
  obtain ⟨rm, es, clock, hr, hm, hF⟩ := hx
  refine CS.mk (fn := Try.f35) rfl rfl rfl rfl ?_
  repeat refine LS.seq ?_
  refine LS.region rfl ?_
  refine OS.pure rfl (fun _ => rfl) rfl ?_
  refine OS.nil ?_
  repeat refine LS.seq ?_
  refine LS.region rfl ?_
  refine OS.pure rfl (fun _ => rfl) rfl ?_
  refine OS.pure rfl (fun _ => rfl) rfl ?_
  refine OS.pure rfl (fun _ => rfl) rfl ?_
  refine OS.read rfl (e_loadm hr rfl rfl rfl rfl) rfl ?_
  refine OS.call noGo rfl (fun _ => rfl) ((bNew_ct n0).mono ?_)
  rintro v L' ⟨ry, rm2, rfl, rfl⟩
  refine ⟨_, rfl, ?_⟩
  refine OS.pure rfl (fun _ => rfl) rfl ?_
  refine OS.nil ?_
  have hr2 : ∀ {p q : Nat × ARow}, (r, bxRow n0 rm) ∈ p :: q :: L := fun {p q} => List.mem_cons_of_mem _ (List.mem_cons_of_mem _ hr)
  have hm3 : ∀ {p q s : Nat × ARow}, (rm, .map es clock) ∈ p :: q :: s :: L := fun {p q s} => List.mem_cons_of_mem _ (List.mem_cons_of_mem _ (List.mem_cons_of_mem _ hm))
  repeat refine LS.seq ?_
  refine LS.region rfl ?_
  refine OS.pure rfl (fun _ => rfl) rfl ?_
  refine OS.pure rfl (fun _ => rfl) rfl ?_
  refine OS.pure rfl (fun _ => rfl) rfl ?_
  refine OS.read rfl (e_loadm hr2 rfl rfl rfl rfl) rfl ?_
  refine OS.fresh rfl (e_rangem (List.mem_cons_of_mem _ (List.mem_cons_of_mem _ hm)) rfl rfl rfl) (fun _ => rfl) (fun rit => ?_)
  refine OS.nil ?_
  repeat refine LS.seq ?_
  refine LS.block ?_
  refine LS.loopJ [1, 5, 18] (fun q a L' => ∃ seen es2 c2, q = ((es.map (·.born)).filter (fun b => !seen.contains b)).length ∧ Fm es2 c2 (fpart f es seen) ∧
    L' = (rit, .iter rm clock seen clock) :: (ry, bxRow n0 rm2) :: (rm2, .map es2 c2) :: L ∧
    a = [.chan none, l, .chan none, .chan none, .chan none, ptr ry, .chan none, .chan none, .chan none, .chan none, .chan none, .chan none, .chan none, .chan none, .chan none, .chan none, .chan none, .chan none, .pointer (some ⟨rit, 0, none⟩), .chan none, .chan none, .chan none, .chan none, .chan none, .chan none, .chan none, .chan none, .chan none, .chan none, .chan none, .chan none, .chan none, .chan none, .chan none, .chan none, .chan none, .chan none, .chan none, .chan none, .chan none, .chan none, .chan none, .chan none, .chan none, .chan none, .chan none, .chan none, .chan none, .chan none, .chan none, .chan none, .chan none]) (n := ((es.map (·.born)).filter (fun b => !([] : List Nat).contains b)).length) rfl ⟨[], [], 0, rfl, by rw [fpart_nil]; exact Fm.nil, rfl, rfl⟩ ?_
  rintro q a L' ⟨seen, es2, c2, rfl, hF2, rfl, rfl⟩
  repeat refine LS.seq ?_
  refine LS.region rfl ?_
  refine OS.nextm 0 hm3 rfl rfl rfl rfl (fun e he => (hF.ent e he).elim fun b h => h.elim fun d h => h.2.2.2) (Nat.le_refl _) (fun hall => ⟨_, rfl, ?_⟩) (fun e he hns => ⟨_, rfl, _, rfl, ?_⟩)
  · rw [fpart_all hF hall] at hF2
    refine OS.pure rfl (fun _ => rfl) rfl ?_
    refine OS.nil ?_
    repeat refine LS.seq ?_
    refine LS.cond rfl (fun hc => by cases hc) (fun hc => ?_)
    refine LS.sub (Sub.drop 0 rfl) ?_
    refine LS.exit ?_
    repeat refine LS.seq ?_
    refine LS.region rfl ?_
    refine OS.pure rfl (fun _ => rfl) rfl ?_
    refine OS.nil ?_
    repeat refine LS.seq ?_
    refine LS.block ?_
    refine LS.loopJ [1, 5, 8] (fun q a L' => ∃ i es3 c3, q = n - i ∧ i ≤ n ∧ Fm es3 c3 (behind f ((bd gs).take i)) ∧ L' = (ry, bxRow n0 rm2) :: (rm2, .map es3 c3) :: L ∧
      a = [.chan none, l, .chan none, .chan none, .chan none, ptr ry, .chan none, .chan none, .int .i64 (i : Nat), .chan none, .chan none, .chan none, .chan none, .chan none, .chan none, .chan none, .chan none, .chan none, .chan none, .chan none, .chan none, .chan none, .chan none, .chan none, .chan none, .chan none, .chan none, .chan none, .chan none, .chan none, .chan none, .chan none, .chan none, .chan none, .chan none, .chan none, .chan none, .chan none, .chan none, .chan none, .chan none, .chan none, .chan none, .chan none, .chan none, .chan none, .chan none, .chan none, .chan none, .chan none, .chan none, .chan none]) (n := n) rfl ⟨0, es2, c2, rfl, by omega, hF2, rfl, rfl⟩ ?_
    rintro q a L' ⟨i, es3, c3, rfl, hi, hF3, rfl, rfl⟩
    repeat refine LS.seq ?_
    refine LS.region rfl ?_
    refine OS.pure rfl (fun _ => rfl) rfl ?_
    refine OS.pure rfl (fun _ => rfl) rfl ?_
    refine OS.pure rfl (e_len hl rfl rfl rfl rfl rfl) rfl ?_
    refine OS.pure rfl (fun _ => rfl) rfl ?_
    refine OS.nil ?_
    repeat refine LS.seq ?_
    refine LS.cond rfl (fun hc => ?_) (fun hc => ?_)
    · have hc : (i : Int) < n := lt_of hc
      have hin : i < n := by omega
      have hg : gs[i]? = some gs[i] := List.getElem?_eq_getElem (by omega)
      have hmem : gs[i] ∈ gs := List.getElem_mem (by omega)
      generalize gs[i] = g at hg hmem
      obtain ⟨m, hgv⟩ := hd g hmem
      obtain ⟨es4, c4, hset, hF4⟩ := hF3.set g.b g.d
      have hstep : (fun x => if x = g.b then some g.d else behind f ((bd gs).take i) x) = behind f ((bd gs).take (i + 1)) := by rw [behind_succ (bd_get hg)]; rfl
      rw [hstep] at hF4
      refine LS.skip ?_
      repeat refine LS.seq ?_
      refine LS.block ?_
      repeat refine LS.seq ?_
      refine LS.drawn noGo mixed [(0, false), (1, false), (2, false), (3, false), (4, false), (5, false), (6, false), (7, false), (8, false), (9, false), (10, false), (11, false), (12, false), (13, false), (14, false), (15, true)] rfl rfl (by kernel_rfl) ?_
      refine ODS.pure rfl rfl (fun _ => rfl) rfl ?_
      refine ODS.pure rfl rfl (fun _ => rfl) rfl ?_
      refine ODS.pure rfl rfl (fun _ => rfl) rfl ?_
      refine ODS.read rfl rfl (e_load 0 rfl rfl rfl rfl rfl) rfl ?_
      refine ODS.pure rfl rfl (fun _ => rfl) rfl ?_
      refine ODS.pure rfl rfl (fun _ => rfl) rfl ?_
      refine ODS.at (j := i) hl.cons.cons hin rfl rfl rfl rfl rfl rfl rfl (fun r2 o2 row2 cs2 m2 c2 g2 k2 => ?_)
      refine ⟨_, rfl, ?_⟩
      refine ODS.pure rfl rfl (fun _ => rfl) rfl ?_
      refine ODS.read rfl rfl (e_loadm m2 c2 rfl rfl (part_one rfl (g2 0 _ (by omega) (pc_at (gp gs) i 0 _ (gp_get hg) (by omega))))) rfl ?_
      refine ODS.pure rfl rfl (fun _ => rfl) rfl ?_
      refine ODS.pure rfl rfl (fun _ => rfl) rfl ?_
      refine ODS.at (j := i) hl.cons.cons hin rfl rfl rfl rfl rfl rfl rfl (fun r3 o3 row3 cs3 m3 c3 g3 k3 => ?_)
      refine ⟨_, rfl, ?_⟩
      refine ODS.pure rfl rfl (fun _ => rfl) rfl ?_
      refine ODS.read rfl rfl (e_loadm m3 c3 rfl rfl (part_one rfl (g3 1 _ (by omega) (pc_at (gp gs) i 1 _ (gp_get hg) (by omega))))) rfl ?_
      refine ODS.read rfl rfl (e_textSV (bs := g.d) hgv.cons.cons rfl rfl rfl rfl rfl) rfl ?_
      refine ODS.write rfl rfl (e_mapUpdate 1 (es2 := es4) (clock2 := c4) rfl rfl rfl rfl rfl rfl rfl hset rfl) rfl (Keep.gone rfl (Keep.gone rfl (Keep.gone rfl (Keep.gone rfl Keep.nil)))) ?_
      refine ODS.nil ?_
      repeat refine LS.seq ?_
      refine LS.region rfl ?_
      refine OS.pure rfl (fun _ => rfl) rfl ?_
      refine OS.pure rfl (e_add rfl rfl rfl (in_i64 (by omega) (by omega))) rfl ?_
      refine OS.pure rfl (fun _ => rfl) rfl ?_
      refine OS.nil ?_
      exact ⟨n - (i + 1), by omega, i + 1, es4, c4, rfl, by omega, hF4, rfl, rfl⟩
    have hc : (n : Int) ≤ i := nlt_of hc
    have hin : i = n := by omega
    subst hin
    rw [← hbl, List.take_length] at hF3
    refine LS.exit ?_
    repeat refine LS.seq ?_
    refine LS.region rfl ?_
    refine OS.pure rfl (fun _ => rfl) rfl ?_
    refine OS.pure rfl (fun _ => rfl) rfl ?_
    refine OS.nil ?_
    refine LS.ret ⟨_, fun _ _ => rfl, ?_⟩
    exact ⟨ry, [(ry, bxRow n0 rm2), (rm2, .map es3 c3)], rfl, rfl, rm2, es3, c3, List.mem_cons_self .., List.mem_cons_of_mem _ (List.mem_cons_self ..), hF3⟩
  · obtain ⟨b, d, hk, hv, hf, hbo⟩ := hF.ent e he
    have hborn := bornB_of hF.bor he
    obtain ⟨es4, c4, hset, hF4⟩ := hF2.set b d
    rw [fpart_step hF he hk hf] at hF4
    refine OS.pure rfl (fun _ => rfl) rfl ?_
    refine OS.nil ?_
    repeat refine LS.seq ?_
    refine LS.cond rfl (fun hc => ?_) (fun hc => by cases hc)
    refine LS.skip ?_
    repeat refine LS.seq ?_
    refine LS.block ?_
    repeat refine LS.seq ?_
    refine LS.region rfl ?_
    refine OS.read rfl (e_entrym 0 hm3 rfl rfl rfl hborn) rfl ?_
    rw [hk, hv]
    refine OS.pure rfl (fun _ => rfl) rfl ?_
    refine OS.pure rfl (fun _ => rfl) rfl ?_
    refine OS.pure rfl (fun _ => rfl) rfl ?_
    refine OS.pure rfl (fun _ => rfl) rfl ?_
    refine OS.nil ?_
    repeat refine LS.seq ?_
    refine LS.region rfl ?_
    refine OS.pure rfl (fun _ => rfl) rfl ?_
    refine OS.pure rfl (fun _ => rfl) rfl ?_
    refine OS.pure rfl (fun _ => rfl) rfl ?_
    refine OS.read rfl (e_load 1 rfl rfl rfl rfl rfl) rfl ?_
    refine OS.pure rfl (fun _ => rfl) rfl ?_
    refine OS.pure rfl (fun _ => rfl) rfl ?_
    refine OS.write rfl (e_mapUpdate 2 (es2 := es4) (clock2 := c4) rfl rfl rfl rfl rfl rfl rfl hset rfl) rfl ?_
    refine OS.nil ?_
    refine ⟨_, ?_, seen ++ [e.born], es4, c4, rfl, hF4, rfl, rfl⟩
    refine cnt_lt (fun x hx => ?_) ⟨e.born, List.mem_map.2 ⟨e, he, rfl⟩, ?_, ?_⟩
    · simp at hx ⊢; exact hx.1
    · simpa using hns
    · simp
end Go.Proofs.Ythfgjedcmhllfaa

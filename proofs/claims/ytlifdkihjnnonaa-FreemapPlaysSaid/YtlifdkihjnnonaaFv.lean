/- Layer 5: FreemapPlays. -/
import Derived.Test.YtlifdkihjnnonaaFu
import Derived.Test.YtlifdkihjnnonaaOpenK
namespace Go.Am
theorem gv_back5 {e : TypeId} {sz n : Nat} {F L : RL} {v : Value} {cs : List Value} {p q x y z : Nat × ARow} (g : GV e sz (p :: q :: x :: y :: z :: F) v n cs L) : ∃ Y, Sub (p :: q :: x :: y :: z :: (Y ++ F)) L ∧ GV e sz [] v n cs Y := by
  rcases g with ⟨rfl, rfl, rfl, rfl⟩ | ⟨r, rfl, hl, rfl⟩
  · exact ⟨[], ⟨[], by simp⟩, .inl ⟨rfl, rfl, rfl, rfl⟩⟩
  · exact ⟨[(r, .cells e cs)], Sub.pulls [5, 5, 5, 5, 5] rfl, .inr ⟨r, rfl, hl, rfl⟩⟩
end Go.Am
namespace Go.Proofs.Ytlifdkihjnnonaa
open Go.Am
set_option linter.unusedVariables false
set_option maxRecDepth 20000

theorem kns_cut {ts : List Kn} {i : Nat} {t : Kn} (h : ts[i]? = some t) : Go.Am.cut (ts.flatMap Kn.cells) (i * 2) 2 = some t.cells := by
  have hi : i < ts.length := (List.getElem?_eq_some_iff.1 h).1
  have hl : (ts.flatMap Kn.cells).length = ts.length * 2 := kn_len ts
  rw [cut_of (by omega)]
  congr 1
  apply List.ext_getElem?
  intro j
  rw [List.getElem?_take]
  split
  · rename_i hj
    rw [List.getElem?_drop]
    exact kn_at ts i j t h hj
  · rename_i hj
    rw [List.getElem?_eq_none (by simp [Kn.cells]; omega)]

set_option maxHeartbeats 2000000 in
theorem plays_ct {L : RL} {l : Value} {m : Nat} {ts : List Kn} (n : Int) (hl : SV 2 L l m (ts.flatMap Kn.cells)) (hm : m ≤ 9223372036854775807) :
    CS Try.prog 4 [.int .i64 n, l] L fun v' _ => v' = .bool true := by
  have hlen : ts.length = m := by have := hl.len; rw [kn_len] at this; omega
  refine CS.mk (fn := Try.f4) rfl rfl rfl rfl ?_
  repeat refine LS.seq ?_
  refine LS.region rfl ?_
  refine OS.pure rfl (fun _ => rfl) rfl ?_
  refine OS.nil ?_
  repeat refine LS.seq ?_
  refine LS.mid [0, 1, 30] (fun a L' => ∃ g : Bool, (g = false → m ≤ 80 ∧ (n ≤ 2000 ∨ 32768 < n)) ∧ L' = L ∧ a = [.int .i64 n, l, .chan none, .chan none, .chan none, .chan none, .chan none, .chan none, .chan none, .chan none, .chan none, .chan none, .chan none, .chan none, .chan none, .chan none, .chan none, .chan none, .chan none, .chan none, .chan none, .chan none, .chan none, .chan none, .chan none, .chan none, .chan none, .chan none, .chan none, .chan none, .bool g, .chan none, .chan none, .chan none, .chan none, .chan none, .chan none, .chan none, .chan none, .chan none, .chan none, .chan none, .chan none, .chan none, .chan none, .chan none, .chan none, .chan none, .chan none, .chan none, .chan none, .chan none, .chan none, .chan none, .chan none, .chan none, .chan none, .chan none, .chan none, .chan none, .chan none, .chan none, .chan none, .chan none, .chan none, .chan none, .chan none, .chan none, .chan none, .chan none, .chan none, .chan none, .chan none, .chan none, .chan none, .chan none, .chan none, .chan none, .chan none, .chan none, .chan none, .chan none, .chan none, .chan none, .chan none, .chan none, .chan none, .chan none, .chan none, .chan none, .chan none, .chan none, .chan none, .chan none, .chan none, .chan none, .chan none, .chan none, .chan none, .chan none, .chan none, .chan none, .chan none, .chan none, .chan none, .chan none, .chan none, .chan none, .chan none, .chan none, .chan none, .chan none, .chan none, .chan none, .chan none, .chan none, .chan none, .chan none, .chan none, .chan none, .chan none, .chan none, .chan none, .chan none, .chan none, .chan none, .chan none, .chan none, .chan none, .chan none, .chan none, .chan none, .chan none, .chan none, .chan none, .chan none, .chan none, .chan none, .chan none, .chan none, .chan none, .chan none, .chan none, .chan none, .chan none, .chan none, .chan none, .chan none, .chan none, .chan none, .chan none, .chan none, .chan none, .chan none, .chan none, .chan none, .chan none, .chan none, .chan none, .chan none, .chan none, .chan none, .chan none, .chan none, .chan none, .chan none, .chan none, .chan none, .chan none, .chan none, .chan none, .chan none, .chan none, .chan none, .chan none, .chan none, .chan none, .chan none, .chan none, .chan none, .chan none, .chan none, .chan none, .chan none, .chan none, .chan none, .chan none, .chan none, .chan none, .chan none, .chan none, .chan none]) ?_ ?_
  · by_cases h1 : 2000 < n
    · have hb1 : (!ileB n 2000) = true := by rw [ileB_eq]; simp; omega
      by_cases h2 : n ≤ 32768
      · have hb2 : ileB n 32768 = true := ileB_iff.2 h2
        refine LS.region rfl ?_
        refine OS.pure rfl (fun _ => rfl) rfl ?_
        refine OS.pure rfl (e_bools (fun _ => rfl) hb1) rfl ?_
        refine OS.pure rfl (fun _ => rfl) rfl ?_
        refine OS.pure rfl (fun _ => rfl) rfl ?_
        refine OS.pure rfl (e_bools (fun _ => rfl) hb2) rfl ?_
        refine OS.pure rfl (fun _ => rfl) rfl ?_
        refine OS.pure rfl (fun _ => rfl) rfl ?_
        refine OS.skip rfl rfl ?_
        refine OS.skip rfl rfl ?_
        refine OS.skip rfl rfl ?_
        refine OS.pure rfl (fun _ => rfl) rfl ?_
        refine OS.nil ?_
        exact ⟨true, fun h => (by cases h), rfl, rfl⟩
      · have hb2 : ileB n 32768 = false := by rw [ileB_eq]; simpa using h2
        refine LS.region rfl ?_
        refine OS.pure rfl (fun _ => rfl) rfl ?_
        refine OS.pure rfl (e_bools (fun _ => rfl) hb1) rfl ?_
        refine OS.pure rfl (fun _ => rfl) rfl ?_
        refine OS.pure rfl (fun _ => rfl) rfl ?_
        refine OS.pure rfl (e_bools (fun _ => rfl) hb2) rfl ?_
        refine OS.pure rfl (fun _ => rfl) rfl ?_
        refine OS.pure rfl (fun _ => rfl) rfl ?_
        refine OS.pure rfl (fun _ => rfl) rfl ?_
        refine OS.pure rfl (e_len hl rfl rfl rfl rfl rfl) rfl ?_
        refine OS.pure rfl (fun _ => rfl) rfl ?_
        refine OS.pure rfl (fun _ => rfl) rfl ?_
        refine OS.nil ?_
        exact ⟨_, fun h => ⟨by have := nlt_of h; omega, .inr (by omega)⟩, rfl, rfl⟩
    · have hb1 : (!ileB n 2000) = false := by rw [ileB_eq]; simp; omega
      refine LS.region rfl ?_
      refine OS.pure rfl (fun _ => rfl) rfl ?_
      refine OS.pure rfl (e_bools (fun _ => rfl) hb1) rfl ?_
      refine OS.pure rfl (fun _ => rfl) rfl ?_
      refine OS.skip rfl rfl ?_
      refine OS.skip rfl rfl ?_
      refine OS.pure rfl (fun _ => rfl) rfl ?_
      refine OS.pure rfl (fun _ => rfl) rfl ?_
      refine OS.pure rfl (fun _ => rfl) rfl ?_
      refine OS.pure rfl (e_len hl rfl rfl rfl rfl rfl) rfl ?_
      refine OS.pure rfl (fun _ => rfl) rfl ?_
      refine OS.pure rfl (fun _ => rfl) rfl ?_
      refine OS.nil ?_
      exact ⟨_, fun h => ⟨by have := nlt_of h; omega, .inl (by omega)⟩, rfl, rfl⟩
  rintro a L' ⟨g, hg, hLL, rfl⟩
  subst hLL
  cases g
  case true =>
    refine LS.cond rfl (fun hc => ?_) (fun hc => by cases hc)
    repeat refine LS.seq ?_
    refine LS.region rfl ?_
    refine OS.pure rfl (fun _ => rfl) rfl ?_
    refine OS.nil ?_
    refine LS.ret ⟨_, fun _ _ => rfl, ?_⟩
    rfl
  obtain ⟨hm80, hnn⟩ := hg rfl
  refine LS.cond rfl (fun hc => by cases hc) (fun hc => ?_)
  refine LS.skip ?_
  by_cases hok : 0 ≤ n ∧ n ≤ 32768
  case neg =>
    repeat refine LS.seq ?_
    refine LS.region rfl ?_
    refine OS.pure rfl (fun _ => rfl) rfl ?_
    refine OS.call noGo rfl (fun _ => rfl) ((New_wrong n (by omega)).mono ?_)
    rintro v L2 ⟨rfl, hLL⟩
    have hLL := hLL.symm
    subst hLL
    refine ⟨_, rfl, ?_⟩
    refine OS.pure rfl (fun _ => rfl) rfl ?_
    refine OS.pure rfl (fun _ => rfl) rfl ?_
    refine OS.pure rfl (fun _ => rfl) rfl ?_
    refine OS.pure rfl (fun _ => rfl) rfl ?_
    refine OS.pure rfl (fun _ => rfl) rfl ?_
    refine OS.nil ?_
    repeat refine LS.seq ?_
    refine LS.region rfl ?_
    refine OS.pure rfl (fun _ => rfl) rfl ?_
    refine OS.call noGo rfl (fun _ => rfl) ((rNew_wrong n (by omega)).mono ?_)
    rintro v L2 ⟨rfl, hLL⟩
    have hLL := hLL.symm
    subst hLL
    refine ⟨_, rfl, ?_⟩
    refine OS.pure rfl (fun _ => rfl) rfl ?_
    refine OS.pure rfl (fun _ => rfl) rfl ?_
    refine OS.pure rfl (fun _ => rfl) rfl ?_
    refine OS.pure rfl (fun _ => rfl) rfl ?_
    refine OS.pure rfl (fun _ => rfl) rfl ?_
    refine OS.nil ?_
    repeat refine LS.seq ?_
    refine LS.region rfl ?_
    refine OS.pure rfl (fun _ => rfl) rfl ?_
    refine OS.pure rfl (fun _ => rfl) rfl ?_
    refine OS.pure rfl (fun _ => rfl) rfl ?_
    refine OS.pure rfl (fun _ => rfl) rfl ?_
    refine OS.pure rfl (fun _ => rfl) rfl ?_
    refine OS.pure rfl (fun _ => rfl) rfl ?_
    refine OS.pure rfl (fun _ => rfl) rfl ?_
    refine OS.nil ?_
    refine LS.cond rfl (fun hc => ?_) (fun hc => by cases hc)
    repeat refine LS.seq ?_
    refine LS.region rfl ?_
    refine OS.pure rfl (fun _ => rfl) rfl ?_
    refine OS.pure rfl (fun _ => rfl) rfl ?_
    refine OS.pure rfl (fun _ => rfl) rfl ?_
    refine OS.pure rfl (fun _ => rfl) rfl ?_
    refine OS.pure rfl (fun _ => rfl) rfl ?_
    refine OS.pure rfl (fun _ => rfl) rfl ?_
    refine OS.pure rfl (fun _ => rfl) rfl ?_
    refine OS.pure rfl (fun _ => rfl) rfl ?_
    refine OS.nil ?_
    refine LS.ret ⟨_, fun _ _ => rfl, ?_⟩
    rfl
  obtain ⟨N, rfl⟩ := Int.eq_ofNat_of_zero_le hok.1
  have hN : N ≤ 2000 := by omega
  repeat refine LS.seq ?_
  refine LS.region rfl ?_
  refine OS.pure rfl (fun _ => rfl) rfl ?_
  refine OS.call noGo rfl (fun _ => rfl) ((New_ct N (by omega)).mono ?_)
  rintro v L2 ⟨rm0, rb0, rfl, rfl⟩
  refine ⟨_, rfl, ?_⟩
  refine OS.pure rfl (fun _ => rfl) rfl ?_
  refine OS.pure rfl (fun _ => rfl) rfl ?_
  refine OS.pure rfl (fun _ => rfl) rfl ?_
  refine OS.pure rfl (fun _ => rfl) rfl ?_
  refine OS.pure rfl (fun _ => rfl) rfl ?_
  refine OS.nil ?_
  repeat refine LS.seq ?_
  refine LS.region rfl ?_
  refine OS.pure rfl (fun _ => rfl) rfl ?_
  refine OS.call noGo rfl (fun _ => rfl) ((rNew_ct N (by omega)).mono ?_)
  rintro v L2 ⟨rx0, rt0, c0, rfl, rfl⟩
  refine ⟨_, rfl, ?_⟩
  refine OS.sub (Sub.pulls [3, 3] rfl) ?_
  refine OS.pure rfl (fun _ => rfl) rfl ?_
  refine OS.pure rfl (fun _ => rfl) rfl ?_
  refine OS.pure rfl (fun _ => rfl) rfl ?_
  refine OS.pure rfl (fun _ => rfl) rfl ?_
  refine OS.pure rfl (fun _ => rfl) rfl ?_
  refine OS.nil ?_
  repeat refine LS.seq ?_
  refine LS.region rfl ?_
  refine OS.pure rfl (fun _ => rfl) rfl ?_
  refine OS.pure rfl (fun _ => rfl) rfl ?_
  refine OS.pure rfl (fun _ => rfl) rfl ?_
  refine OS.pure rfl (fun _ => rfl) rfl ?_
  refine OS.pure rfl (fun _ => rfl) rfl ?_
  refine OS.pure rfl (fun _ => rfl) rfl ?_
  refine OS.pure rfl (fun _ => rfl) rfl ?_
  refine OS.nil ?_
  refine LS.cond rfl (fun hc => by cases hc) (fun hc => ?_)
  refine LS.skip ?_
  repeat refine LS.seq ?_
  refine LS.region rfl ?_
  refine OS.pure rfl (fun _ => rfl) rfl ?_
  refine OS.nil ?_
  repeat refine LS.seq ?_
  refine LS.block ?_
  refine LS.loopJ [0, 1, 5, 7, 9] (fun q a L2 => ∃ (i rm rb rx rt c : Nat) (T : List Bool), q = m - i ∧ i ≤ m ∧ T.length = N ∧ L2 = fm rm rb T (rf rx rt c T L') ∧ a = [.int .i64 (N : Nat), l, .chan none, .chan none, .chan none, ptr rm, .chan none, ptr rx, .chan none, .int .i64 (i : Nat), .chan none, .chan none, .chan none, .chan none, .chan none, .chan none, .chan none, .chan none, .chan none, .chan none, .chan none, .chan none, .chan none, .chan none, .chan none, .chan none, .chan none, .chan none, .chan none, .chan none, .chan none, .chan none, .chan none, .chan none, .chan none, .chan none, .chan none, .chan none, .chan none, .chan none, .chan none, .chan none, .chan none, .chan none, .chan none, .chan none, .chan none, .chan none, .chan none, .chan none, .chan none, .chan none, .chan none, .chan none, .chan none, .chan none, .chan none, .chan none, .chan none, .chan none, .chan none, .chan none, .chan none, .chan none, .chan none, .chan none, .chan none, .chan none, .chan none, .chan none, .chan none, .chan none, .chan none, .chan none, .chan none, .chan none, .chan none, .chan none, .chan none, .chan none, .chan none, .chan none, .chan none, .chan none, .chan none, .chan none, .chan none, .chan none, .chan none, .chan none, .chan none, .chan none, .chan none, .chan none, .chan none, .chan none, .chan none, .chan none, .chan none, .chan none, .chan none, .chan none, .chan none, .chan none, .chan none, .chan none, .chan none, .chan none, .chan none, .chan none, .chan none, .chan none, .chan none, .chan none, .chan none, .chan none, .chan none, .chan none, .chan none, .chan none, .chan none, .chan none, .chan none, .chan none, .chan none, .chan none, .chan none, .chan none, .chan none, .chan none, .chan none, .chan none, .chan none, .chan none, .chan none, .chan none, .chan none, .chan none, .chan none, .chan none, .chan none, .chan none, .chan none, .chan none, .chan none, .chan none, .chan none, .chan none, .chan none, .chan none, .chan none, .chan none, .chan none, .chan none, .chan none, .chan none, .chan none, .chan none, .chan none, .chan none, .chan none, .chan none, .chan none, .chan none, .chan none, .chan none, .chan none, .chan none, .chan none, .chan none, .chan none, .chan none, .chan none, .chan none, .chan none, .chan none, .chan none, .chan none, .chan none, .chan none, .chan none, .chan none, .chan none, .chan none, .chan none, .chan none, .chan none, .chan none, .chan none, .chan none, .chan none, .chan none]) (n := m) rfl
    ⟨0, rm0, rb0, rx0, rt0, c0, List.replicate N false, rfl, by omega, List.length_replicate, rfl, rfl⟩ ?_
  rintro q a L2 ⟨i, rm, rb, rx, rt, c, T, rfl, hi, hT, rfl, rfl⟩
  have hT3 : T.length ≤ 32768 := by omega
  have hlM : SV 2 (fm rm rb T (rf rx rt c T L')) l m (ts.flatMap Kn.cells) := hl.cons.cons.cons.cons
  repeat refine LS.seq ?_
  refine LS.region rfl ?_
  refine OS.pure rfl (fun _ => rfl) rfl ?_
  refine OS.pure rfl (fun _ => rfl) rfl ?_
  refine OS.pure rfl (e_len hl rfl rfl rfl rfl rfl) rfl ?_
  refine OS.pure rfl (fun _ => rfl) rfl ?_
  refine OS.nil ?_
  repeat refine LS.seq ?_
  refine LS.cond rfl (fun hc => ?_) (fun hc => ?_)
  case refine_2 =>
    refine LS.exit ?_
    repeat refine LS.seq ?_
    refine LS.region rfl ?_
    refine OS.pure rfl (fun _ => rfl) rfl ?_
    refine OS.call noGo rfl (fun _ => rfl) ((List_ct hT3).mono ?_)
    rintro v L3 hg
    obtain ⟨Y, hsub, hY⟩ := gv_back hg
    refine ⟨_, rfl, ?_⟩
    refine OS.pure rfl (fun _ => rfl) rfl ?_
    refine OS.call noGo rfl (fun _ => rfl) ((CS.sub hsub (CS.sub Sub.pick2 (rList_ct hT3))).mono ?_)
    rintro v4 L4 hg4
    refine ⟨_, rfl, ?_⟩
    refine OS.call noGo rfl (fun _ => rfl) ((Ints_ct (xs := lst' T) (hY.mono fun p hp => hg4.mem _ (by simp [hp])) hg4.sv (by have := lstTo_len T T.length; unfold lst'; unfold lstTo at this; omega)).mono ?_)
    rintro v5 L5 ⟨rfl, rfl⟩
    refine ⟨_, rfl, ?_⟩
    refine OS.pure rfl (fun _ => rfl) rfl ?_
    refine OS.nil ?_
    refine LS.ret ⟨_, fun _ _ => rfl, ?_⟩
    rfl
  have hc := lt_of hc
  have him : i < m := by omega
  obtain ⟨⟨k, z⟩, ht⟩ : ∃ t, ts[i]? = some t := ⟨_, List.getElem?_eq_getElem (by omega)⟩
  refine LS.skip ?_
  refine LS.seq ?_
  refine LS.mid [0, 1, 5, 7, 9] (fun a L2 => ∃ (rm rb rx rt c : Nat) (T : List Bool), T.length = N ∧ L2 = fm rm rb T (rf rx rt c T L') ∧ a = [.int .i64 (N : Nat), l, .chan none, .chan none, .chan none, ptr rm, .chan none, ptr rx, .chan none, .int .i64 (i : Nat), .chan none, .chan none, .chan none, .chan none, .chan none, .chan none, .chan none, .chan none, .chan none, .chan none, .chan none, .chan none, .chan none, .chan none, .chan none, .chan none, .chan none, .chan none, .chan none, .chan none, .chan none, .chan none, .chan none, .chan none, .chan none, .chan none, .chan none, .chan none, .chan none, .chan none, .chan none, .chan none, .chan none, .chan none, .chan none, .chan none, .chan none, .chan none, .chan none, .chan none, .chan none, .chan none, .chan none, .chan none, .chan none, .chan none, .chan none, .chan none, .chan none, .chan none, .chan none, .chan none, .chan none, .chan none, .chan none, .chan none, .chan none, .chan none, .chan none, .chan none, .chan none, .chan none, .chan none, .chan none, .chan none, .chan none, .chan none, .chan none, .chan none, .chan none, .chan none, .chan none, .chan none, .chan none, .chan none, .chan none, .chan none, .chan none, .chan none, .chan none, .chan none, .chan none, .chan none, .chan none, .chan none, .chan none, .chan none, .chan none, .chan none, .chan none, .chan none, .chan none, .chan none, .chan none, .chan none, .chan none, .chan none, .chan none, .chan none, .chan none, .chan none, .chan none, .chan none, .chan none, .chan none, .chan none, .chan none, .chan none, .chan none, .chan none, .chan none, .chan none, .chan none, .chan none, .chan none, .chan none, .chan none, .chan none, .chan none, .chan none, .chan none, .chan none, .chan none, .chan none, .chan none, .chan none, .chan none, .chan none, .chan none, .chan none, .chan none, .chan none, .chan none, .chan none, .chan none, .chan none, .chan none, .chan none, .chan none, .chan none, .chan none, .chan none, .chan none, .chan none, .chan none, .chan none, .chan none, .chan none, .chan none, .chan none, .chan none, .chan none, .chan none, .chan none, .chan none, .chan none, .chan none, .chan none, .chan none, .chan none, .chan none, .chan none, .chan none, .chan none, .chan none, .chan none, .chan none, .chan none, .chan none, .chan none, .chan none, .chan none, .chan none, .chan none, .chan none, .chan none, .chan none, .chan none, .chan none, .chan none, .chan none, .chan none]) ?_ ?_
  case refine_2 =>
    rintro a L2 ⟨rm, rb, rx, rt, c, T, hT, rfl, rfl⟩
    repeat refine LS.seq ?_
    refine LS.region rfl ?_
    refine OS.pure rfl (fun _ => rfl) rfl ?_
    refine OS.pure rfl (e_add rfl rfl rfl (in_i64 (by omega) (by omega))) rfl ?_
    refine OS.pure rfl (fun _ => rfl) rfl ?_
    refine OS.nil ?_
    exact ⟨m - (i + 1), by omega, i + 1, rm, rb, rx, rt, c, T, rfl, by omega, hT, rfl, rfl⟩
  repeat refine LS.seq ?_
  refine LS.block ?_
  repeat refine LS.seq ?_
  refine LS.region rfl ?_
  refine OS.pure rfl (fun _ => rfl) rfl ?_
  refine OS.pure rfl (fun _ => rfl) rfl ?_
  refine OS.at (j := i) hlM him rfl rfl rfl rfl rfl rfl (fun r0 o0 row0 cs0 m0 c0 g0 k0 => ?_)
  refine ⟨_, rfl, ?_⟩
  refine OS.read rfl (e_loadm m0 c0 rfl rfl (part_agg rfl rfl (k0 _ (kns_cut ht)))) rfl ?_
  refine OS.fresh rfl (e_new (fun _ => rfl) rfl) (fun _ => rfl) (fun rs => ?_)
  refine OS.write rfl (e_store 0 rfl rfl rfl rfl rfl rfl rfl rfl) rfl ?_
  refine OS.sub (Sub.pulls [4, 4, 4, 4] rfl) ?_
  refine OS.nil ?_
  clear m0 c0 g0 k0 hlM
  repeat refine LS.seq ?_
  refine LS.region rfl ?_
  refine OS.pure rfl (fun _ => rfl) rfl ?_
  refine OS.pure rfl (fun _ => rfl) rfl ?_
  refine OS.nil ?_
  repeat refine LS.seq ?_
  refine LS.region rfl ?_
  refine OS.pure rfl (fun _ => rfl) rfl ?_
  refine OS.pure rfl (fun _ => rfl) rfl ?_
  refine OS.nil ?_
  repeat refine LS.seq ?_
  refine LS.region rfl ?_
  refine OS.pure rfl (fun _ => rfl) rfl ?_
  refine OS.read rfl (e_load 4 rfl rfl rfl rfl rfl) rfl ?_
  refine OS.nil ?_
  repeat refine LS.seq ?_
  refine LS.mid [0, 1, 5, 7, 9, 10, 11, 12, 13, 14] (fun a L2 => ∃ (rm rb rx rt c : Nat) (T : List Bool) (e kk : Int), T.length = N ∧ L2 = fm rm rb T (rf rx rt c T ((rs, .cells 43 [.int .i64 k, .int .i64 z]) :: L')) ∧
    a = [.int .i64 (N : Nat), l, .chan none, .chan none, .chan none, ptr rm, .chan none, ptr rx, .chan none, .int .i64 (i : Nat), ptr rs, .int .i64 e, .int .i64 e, .int .i64 kk, .int .i64 kk, .chan none, .chan none, .chan none, .chan none, .chan none, .chan none, .chan none, .chan none, .chan none, .chan none, .chan none, .chan none, .chan none, .chan none, .chan none, .chan none, .chan none, .chan none, .chan none, .chan none, .chan none, .chan none, .chan none, .chan none, .chan none, .chan none, .chan none, .chan none, .chan none, .chan none, .chan none, .chan none, .chan none, .chan none, .chan none, .chan none, .chan none, .chan none, .chan none, .chan none, .chan none, .chan none, .chan none, .chan none, .chan none, .chan none, .chan none, .chan none, .chan none, .chan none, .chan none, .chan none, .chan none, .chan none, .chan none, .chan none, .chan none, .chan none, .chan none, .chan none, .chan none, .chan none, .chan none, .chan none, .chan none, .chan none, .chan none, .chan none, .chan none, .chan none, .chan none, .chan none, .chan none, .chan none, .chan none, .chan none, .chan none, .chan none, .chan none, .chan none, .chan none, .chan none, .chan none, .chan none, .chan none, .chan none, .chan none, .chan none, .chan none, .chan none, .chan none, .chan none, .chan none, .chan none, .chan none, .chan none, .chan none, .chan none, .chan none, .chan none, .chan none, .chan none, .chan none, .chan none, .chan none, .chan none, .chan none, .chan none, .chan none, .chan none, .chan none, .chan none, .chan none, .chan none, .chan none, .chan none, .chan none, .chan none, .chan none, .chan none, .chan none, .chan none, .chan none, .chan none, .chan none, .chan none, .chan none, .chan none, .chan none, .chan none, .chan none, .chan none, .chan none, .chan none, .chan none, .chan none, .chan none, .chan none, .chan none, .chan none, .chan none, .chan none, .chan none, .chan none, .chan none, .chan none, .chan none, .chan none, .chan none, .chan none, .chan none, .chan none, .chan none, .chan none, .chan none, .chan none, .chan none, .chan none, .chan none, .chan none, .chan none, .chan none, .chan none, .chan none, .chan none, .chan none, .chan none, .chan none, .chan none, .chan none, .chan none, .chan none, .chan none, .chan none, .chan none, .chan none, .chan none]) ?_ ?_
  · repeat refine LS.seq ?_
    refine LS.block ?_
    by_cases h0 : k = 0
    · subst h0
      repeat refine LS.seq ?_
      refine LS.region rfl ?_
      refine OS.pure rfl (fun _ => rfl) rfl ?_
      refine OS.pure rfl (fun _ => rfl) rfl ?_
      refine OS.nil ?_
      refine LS.cond rfl (fun hc => ?_) (fun hc => by cases hc)
      repeat refine LS.seq ?_
      refine LS.region rfl ?_
      refine OS.pure rfl (fun _ => rfl) rfl ?_
      refine OS.call noGo rfl (fun _ => rfl) ((Take_ct hT3).mono ?_)
      rintro v L2 ⟨rfl, rfl⟩
      refine ⟨_, rfl, ?_⟩
      refine OS.pure rfl (fun _ => rfl) rfl ?_
      refine OS.pure rfl (fun _ => rfl) rfl ?_
      refine OS.pure rfl (fun _ => rfl) rfl ?_
      refine OS.pure rfl (fun _ => rfl) rfl ?_
      refine OS.pure rfl (fun _ => rfl) rfl ?_
      refine OS.nil ?_
      repeat refine LS.seq ?_
      refine LS.region rfl ?_
      refine OS.pure rfl (fun _ => rfl) rfl ?_
      refine OS.call noGo rfl (fun _ => rfl) ((CS.sub (Sub.pulls [3, 3] rfl) (rTake_ct hT3)).mono ?_)
      rintro v L2 ⟨rfl, rfl⟩
      refine ⟨_, rfl, ?_⟩
      refine OS.sub (Sub.pulls [3, 3] rfl) ?_
      refine OS.pure rfl (fun _ => rfl) rfl ?_
      refine OS.pure rfl (fun _ => rfl) rfl ?_
      refine OS.pure rfl (fun _ => rfl) rfl ?_
      refine OS.pure rfl (fun _ => rfl) rfl ?_
      refine OS.pure rfl (fun _ => rfl) rfl ?_
      refine OS.nil ?_
      exact ⟨rm, rb, rx, rt, c, takeS T, takeE T, (takeI T : Nat), by rw [takeS_len]; exact hT, rfl, rfl⟩
    have hk0 : ieqB k 0 = false := by rw [ieqB_eq]; simpa using h0
    repeat refine LS.seq ?_
    refine LS.region rfl ?_
    refine OS.pure rfl (e_bools (fun _ => rfl) hk0) rfl ?_
    refine OS.pure rfl (fun _ => rfl) rfl ?_
    refine OS.nil ?_
    refine LS.cond rfl (fun hc => by cases hc) (fun hc => ?_)
    by_cases h1 : k = 1
    · subst h1
      repeat refine LS.seq ?_
      refine LS.region rfl ?_
      refine OS.pure rfl (fun _ => rfl) rfl ?_
      refine OS.pure rfl (fun _ => rfl) rfl ?_
      refine OS.nil ?_
      refine LS.cond rfl (fun hc => ?_) (fun hc => by cases hc)
      repeat refine LS.seq ?_
      refine LS.region rfl ?_
      refine OS.pure rfl (fun _ => rfl) rfl ?_
      refine OS.pure rfl (fun _ => rfl) rfl ?_
      refine OS.read rfl (e_load 4 rfl rfl rfl rfl rfl) rfl ?_
      refine OS.call noGo rfl (fun _ => rfl) ((Claim_ct hT3 z).mono ?_)
      rintro v L2 ⟨rfl, rfl⟩
      refine ⟨_, rfl, ?_⟩
      refine OS.pure rfl (fun _ => rfl) rfl ?_
      refine OS.nil ?_
      repeat refine LS.seq ?_
      refine LS.region rfl ?_
      refine OS.pure rfl (fun _ => rfl) rfl ?_
      refine OS.pure rfl (fun _ => rfl) rfl ?_
      refine OS.read rfl (e_load 4 rfl rfl rfl rfl rfl) rfl ?_
      refine OS.call noGo rfl (fun _ => rfl) ((CS.sub (Sub.pulls [3, 3] rfl) (rClaim_ct hT3 z)).mono ?_)
      rintro v L2 ⟨rfl, rfl⟩
      refine ⟨_, rfl, ?_⟩
      refine OS.sub (Sub.pulls [3, 3] rfl) ?_
      refine OS.pure rfl (fun _ => rfl) rfl ?_
      refine OS.nil ?_
      exact ⟨rm, rb, rx, rt, c, claimS T z, claimE T z, 0, by rw [claimS_len]; exact hT, rfl, rfl⟩
    have hk1 : ieqB k 1 = false := by rw [ieqB_eq]; simpa using h1
    repeat refine LS.seq ?_
    refine LS.region rfl ?_
    refine OS.pure rfl (e_bools (fun _ => rfl) hk1) rfl ?_
    refine OS.pure rfl (fun _ => rfl) rfl ?_
    refine OS.nil ?_
    refine LS.cond rfl (fun hc => by cases hc) (fun hc => ?_)
    by_cases h2 : k = 2
    · subst h2
      repeat refine LS.seq ?_
      refine LS.region rfl ?_
      refine OS.pure rfl (fun _ => rfl) rfl ?_
      refine OS.pure rfl (fun _ => rfl) rfl ?_
      refine OS.nil ?_
      refine LS.cond rfl (fun hc => ?_) (fun hc => by cases hc)
      repeat refine LS.seq ?_
      refine LS.region rfl ?_
      refine OS.pure rfl (fun _ => rfl) rfl ?_
      refine OS.pure rfl (fun _ => rfl) rfl ?_
      refine OS.read rfl (e_load 4 rfl rfl rfl rfl rfl) rfl ?_
      refine OS.call noGo rfl (fun _ => rfl) ((Drop_ct hT3 z).mono ?_)
      rintro v L2 ⟨rfl, rfl⟩
      refine ⟨_, rfl, ?_⟩
      refine OS.pure rfl (fun _ => rfl) rfl ?_
      refine OS.nil ?_
      repeat refine LS.seq ?_
      refine LS.region rfl ?_
      refine OS.pure rfl (fun _ => rfl) rfl ?_
      refine OS.pure rfl (fun _ => rfl) rfl ?_
      refine OS.read rfl (e_load 4 rfl rfl rfl rfl rfl) rfl ?_
      refine OS.call noGo rfl (fun _ => rfl) ((CS.sub (Sub.pulls [3, 3] rfl) (rDrop_ct hT3 z)).mono ?_)
      rintro v L2 ⟨rfl, rfl⟩
      refine ⟨_, rfl, ?_⟩
      refine OS.sub (Sub.pulls [3, 3] rfl) ?_
      refine OS.pure rfl (fun _ => rfl) rfl ?_
      refine OS.nil ?_
      exact ⟨rm, rb, rx, rt, c, dropS T z, dropE T z, 0, by rw [dropS_len]; exact hT, rfl, rfl⟩
    have hk2 : ieqB k 2 = false := by rw [ieqB_eq]; simpa using h2
    repeat refine LS.seq ?_
    refine LS.region rfl ?_
    refine OS.pure rfl (e_bools (fun _ => rfl) hk2) rfl ?_
    refine OS.pure rfl (fun _ => rfl) rfl ?_
    refine OS.nil ?_
    refine LS.cond rfl (fun hc => by cases hc) (fun hc => ?_)
    by_cases h3 : k = 3
    · subst h3
      repeat refine LS.seq ?_
      refine LS.region rfl ?_
      refine OS.pure rfl (fun _ => rfl) rfl ?_
      refine OS.pure rfl (fun _ => rfl) rfl ?_
      refine OS.nil ?_
      refine LS.cond rfl (fun hc => ?_) (fun hc => by cases hc)
      repeat refine LS.seq ?_
      refine LS.region rfl ?_
      refine OS.pure rfl (fun _ => rfl) rfl ?_
      refine OS.call noGo rfl (fun _ => rfl) ((Copy_ct hT3).mono ?_)
      rintro v L2 ⟨rm2, rb2, rfl, rfl⟩
      refine ⟨_, rfl, ?_⟩
      refine OS.pure rfl (fun _ => rfl) rfl ?_
      refine OS.nil ?_
      repeat refine LS.seq ?_
      refine LS.region rfl ?_
      refine OS.pure rfl (fun _ => rfl) rfl ?_
      refine OS.call noGo rfl (fun _ => rfl) ((CS.sub (Sub.pulls [3, 3] rfl) (Take_ct hT3)).mono ?_)
      rintro v L2 ⟨rfl, rfl⟩
      refine ⟨_, rfl, ?_⟩
      refine OS.nil ?_
      repeat refine LS.seq ?_
      refine LS.region rfl ?_
      refine OS.pure rfl (fun _ => rfl) rfl ?_
      refine OS.call noGo rfl (fun _ => rfl) ((Drop_ct (T := takeS T) (by rw [takeS_len]; exact hT3) 0).mono ?_)
      rintro v L2 ⟨rfl, rfl⟩
      refine ⟨_, rfl, ?_⟩
      refine OS.nil ?_
      repeat refine LS.seq ?_
      refine LS.region rfl ?_
      refine OS.pure rfl (fun _ => rfl) rfl ?_
      refine OS.pure rfl (fun _ => rfl) rfl ?_
      refine OS.nil ?_
      repeat refine LS.seq ?_
      refine LS.region rfl ?_
      refine OS.pure rfl (fun _ => rfl) rfl ?_
      refine OS.call noGo rfl (fun _ => rfl) ((CS.sub (Sub.pulls [5, 5] rfl) (rCopy_ct hT3)).mono ?_)
      rintro v L2 ⟨rx2, rt2, c2, rfl, rfl⟩
      refine ⟨_, rfl, ?_⟩
      refine OS.sub (Sub.drop 2 rfl) ?_
      refine OS.sub (Sub.drop 2 rfl) ?_
      refine OS.sub (Sub.drop 2 rfl) ?_
      refine OS.sub (Sub.drop 2 rfl) ?_
      refine OS.sub (Sub.pulls [3, 3] rfl) ?_
      refine OS.pure rfl (fun _ => rfl) rfl ?_
      refine OS.nil ?_
      exact ⟨rm2, rb2, rx2, rt2, c2, T, 0, 0, hT, rfl, rfl⟩
    have hk3 : ieqB k 3 = false := by rw [ieqB_eq]; simpa using h3
    repeat refine LS.seq ?_
    refine LS.region rfl ?_
    refine OS.pure rfl (e_bools (fun _ => rfl) hk3) rfl ?_
    refine OS.pure rfl (fun _ => rfl) rfl ?_
    refine OS.nil ?_
    refine LS.cond rfl (fun hc => by cases hc) (fun hc => ?_)
    by_cases h4 : k = 4
    · subst h4
      repeat refine LS.seq ?_
      refine LS.region rfl ?_
      refine OS.pure rfl (fun _ => rfl) rfl ?_
      refine OS.pure rfl (fun _ => rfl) rfl ?_
      refine OS.nil ?_
      refine LS.cond rfl (fun hc => ?_) (fun hc => by cases hc)
      repeat refine LS.seq ?_
      refine LS.region rfl ?_
      refine OS.pure rfl (fun _ => rfl) rfl ?_
      refine OS.call noGo rfl (fun _ => rfl) ((Bytes_ct hT3).mono ?_)
      rintro v L2 ⟨r, rfl, rfl⟩
      refine ⟨_, rfl, ?_⟩
      refine OS.call noGo rfl (fun _ => rfl) ((Load_ct (bs := mb T) (.inl (.inr ⟨r, 0, byteCells (mb T), rfl, List.mem_cons_self .., cut_all (byteCells_len _)⟩)) (by have := mb_len hT3; omega)).mono ?_)
      rintro v2 L2 (⟨T2, rm2, rb2, hT2, rfl, rfl⟩ | ⟨hno, _⟩)
      case inr => exact absurd ⟨hT3, rfl⟩ (hno T)
      have hTT := isMap_uniq hT2 ⟨hT3, rfl⟩
      subst hTT
      refine ⟨_, rfl, ?_⟩
      refine OS.pure rfl (fun _ => rfl) rfl ?_
      refine OS.pure rfl (fun _ => rfl) rfl ?_
      refine OS.pure rfl (fun _ => rfl) rfl ?_
      refine OS.pure rfl (fun _ => rfl) rfl ?_
      refine OS.pure rfl (fun _ => rfl) rfl ?_
      refine OS.sub (Sub.drop 2 rfl) ?_
      refine OS.sub (Sub.drop 2 rfl) ?_
      refine OS.sub (Sub.drop 2 rfl) ?_
      refine OS.nil ?_
      exact ⟨rm2, rb2, rx, rt, c, T2, 0, 0, hT, rfl, rfl⟩
    have hk4 : ieqB k 4 = false := by rw [ieqB_eq]; simpa using h4
    repeat refine LS.seq ?_
    refine LS.region rfl ?_
    refine OS.pure rfl (e_bools (fun _ => rfl) hk4) rfl ?_
    refine OS.pure rfl (fun _ => rfl) rfl ?_
    refine OS.nil ?_
    refine LS.cond rfl (fun hc => by cases hc) (fun hc => ?_)
    refine LS.skip ?_
    exact ⟨rm, rb, rx, rt, c, T, 0, 0, hT, rfl, rfl⟩
  clear hc hT hT3
  rintro a L2 ⟨rm, rb, rx, rt, c, T, e, kk, hT, rfl, rfl⟩
  have hT3 : T.length ≤ 32768 := by omega
  have hml := mb_len hT3
  have hlst : (lst' T).length ≤ 1000000 := by have := lstTo_len T T.length; unfold lst'; unfold lstTo at this; omega
  generalize hrow : ARow.cells 43 [.int .i64 k, .int .i64 z] = srow
  repeat refine LS.seq ?_
  refine LS.region rfl ?_
  refine OS.pure rfl (fun _ => rfl) rfl ?_
  refine OS.call noGo rfl (fun _ => rfl) ((List_ct hT3).mono ?_)
  rintro v L3 hg
  obtain ⟨Y, hsub, hY⟩ := gv_back5 hg
  refine ⟨_, rfl, ?_⟩
  refine OS.sub hsub ?_
  refine OS.pure rfl (fun _ => rfl) rfl ?_
  refine OS.nil ?_
  repeat refine LS.seq ?_
  refine LS.region rfl ?_
  refine OS.pure rfl (fun _ => rfl) rfl ?_
  refine OS.call noGo rfl (fun _ => rfl) ((Bytes_ct hT3).mono ?_)
  rintro v2 L3 ⟨r17, rfl, rfl⟩
  refine ⟨_, rfl, ?_⟩
  refine OS.pure rfl (fun _ => rfl) rfl ?_
  refine OS.nil ?_
  subst hrow
  repeat refine LS.seq ?_
  refine LS.drawn noGo mixed [(0, false), (1, false), (2, false), (3, false), (4, false), (5, false), (6, false), (7, false), (8, false), (9, false), (11, false), (10, true), (12, false), (13, false), (14, false), (15, false), (17, false), (16, true), (18, true), (19, false), (20, false), (21, false), (22, false), (23, false), (24, false), (26, false), (27, false), (28, false), (25, true), (29, true), (30, false), (31, false), (32, false), (33, false), (34, false), (35, true), (36, true), (37, false), (38, false), (39, false), (40, false), (41, false), (42, false), (43, true), (44, false), (45, false), (46, false)] rfl rfl (by kernel_rfl) ?_
  refine ODS.pure rfl rfl (fun _ => rfl) rfl ?_
  refine ODS.pure rfl rfl (fun _ => rfl) rfl ?_
  refine ODS.pure rfl rfl (e_bools (fun _ => rfl) (ne_same e)) rfl ?_
  refine ODS.pure rfl rfl (fun _ => rfl) rfl ?_
  refine ODS.pure rfl rfl (fun _ => rfl) rfl ?_
  refine ODS.pure rfl rfl (fun _ => rfl) rfl ?_
  refine ODS.pure rfl rfl (e_bools (fun _ => rfl) (ne_same kk)) rfl ?_
  refine ODS.pure rfl rfl (fun _ => rfl) rfl ?_
  refine ODS.pure rfl rfl (fun _ => rfl) rfl ?_
  refine ODS.pure rfl rfl (fun _ => rfl) rfl ?_
  refine ODS.pure rfl rfl (fun _ => rfl) rfl ?_
  refine ODS.call rfl rfl (fun _ => rfl) ((CS.sub (Sub.pulls [2, 2] rfl) Len_ct).mono ?_)
  rintro v3 L3 ⟨rfl, rfl⟩
  refine ⟨_, rfl, Keep.nil, ?_⟩
  refine ODS.pure rfl rfl (e_bools (fun _ => rfl) (show (!ieqB ((T.length : Nat) : Int) (N : Int)) = false by rw [hT]; exact ne_same _)) rfl ?_
  refine ODS.pure rfl rfl (fun _ => rfl) rfl ?_
  refine ODS.pure rfl rfl (fun _ => rfl) rfl ?_
  refine ODS.pure rfl rfl (fun _ => rfl) rfl ?_
  refine ODS.pure rfl rfl (fun _ => rfl) rfl ?_
  refine ODS.call rfl rfl (fun _ => rfl) ((Free_ct hT3).mono ?_)
  rintro v3 L3 ⟨rfl, rfl⟩
  refine ⟨_, rfl, Keep.nil, ?_⟩
  refine ODS.call rfl rfl (fun _ => rfl) ((CS.sub (Sub.pulls [4, 4] rfl) (rFree_ct hT3)).mono ?_)
  rintro v3 L3 ⟨rfl, rfl⟩
  refine ⟨_, rfl, Keep.nil, ?_⟩
  refine ODS.pure rfl rfl (e_bools (fun _ => rfl) (ne_same _)) rfl ?_
  refine ODS.pure rfl rfl (fun _ => rfl) rfl ?_
  refine ODS.pure rfl rfl (fun _ => rfl) rfl ?_
  refine ODS.pure rfl rfl (fun _ => rfl) rfl ?_
  refine ODS.pure rfl rfl (fun _ => rfl) rfl ?_
  refine ODS.read rfl rfl (e_load 5 rfl rfl rfl rfl rfl) rfl ?_
  refine ODS.pure rfl rfl (fun _ => rfl) rfl ?_
  refine ODS.pure rfl rfl (fun _ => rfl) rfl ?_
  refine ODS.read rfl rfl (e_load 5 rfl rfl rfl rfl rfl) rfl ?_
  refine ODS.call rfl rfl (fun _ => rfl) ((CS.sub (Sub.pulls [3, 3] rfl) (Taken_ct hT3 z)).mono ?_)
  rintro v3 L3 ⟨rfl, rfl⟩
  refine ⟨_, rfl, Keep.cons rfl (e_load 5 rfl rfl rfl rfl rfl) (Keep.gone rfl Keep.nil), ?_⟩
  refine ODS.call rfl rfl (fun _ => rfl) ((CS.sub (Sub.pulls [3, 3] rfl) (rTaken_ct hT3 z)).mono ?_)
  rintro v3 L3 ⟨rfl, rfl⟩
  refine ⟨_, rfl, Keep.gone rfl (Keep.gone rfl Keep.nil), ?_⟩
  refine ODS.pure rfl rfl (e_bools (fun _ => rfl) (show ((decide (0 ≤ z ∧ z < T.length) && tkn T z.toNat) != (decide (0 ≤ z ∧ z < T.length) && tkn T z.toNat)) = false by simp)) rfl ?_
  refine ODS.pure rfl rfl (fun _ => rfl) rfl ?_
  refine ODS.pure rfl rfl (fun _ => rfl) rfl ?_
  refine ODS.pure rfl rfl (fun _ => rfl) rfl ?_
  refine ODS.pure rfl rfl (fun _ => rfl) rfl ?_
  refine ODS.call rfl rfl (fun _ => rfl) ((rList_ct hT3).mono ?_)
  rintro v4 L4 hg4
  refine ⟨_, rfl, Keep.gone rfl (Keep.gone rfl Keep.nil), ?_⟩
  refine ODS.call rfl rfl (fun _ => rfl) ((Ints_ct (xs := lst' T) (hY.sv.mono fun p hp => hg4.mem _ (by simp [hp])) hg4.sv hlst).mono ?_)
  rintro v5 L5 ⟨rfl, rfl⟩
  refine ⟨_, rfl, Keep.gone rfl (Keep.gone rfl Keep.nil), ?_⟩
  refine ODS.pure rfl rfl (fun _ => rfl) rfl ?_
  refine ODS.pure rfl rfl (fun _ => rfl) rfl ?_
  refine ODS.pure rfl rfl (fun _ => rfl) rfl ?_
  refine ODS.pure rfl rfl (fun _ => rfl) rfl ?_
  refine ODS.read rfl rfl (e_textSV (bs := mb T) (SV.row (sz := 1) (e := 5) (r := r17) (hg4.mem _ (by simp)) (by rw [byteCells_len]; omega)) rfl rfl rfl rfl rfl) rfl ?_
  refine ODS.pure rfl rfl (fun _ => rfl) rfl ?_
  refine ODS.call rfl rfl (fun _ => rfl) ((CS.sub (gv_drop hg4) (rBytes_ct hT3)).mono ?_)
  rintro v6 L6 hg6
  refine ⟨_, rfl, Keep.cons rfl (e_textSV (bs := mb T) (SV.row (sz := 1) (e := 5) (r := r17) (hg6.mem _ (by simp)) (by rw [byteCells_len]; omega)) rfl rfl rfl rfl rfl) (Keep.gone rfl (Keep.gone rfl Keep.nil)), ?_⟩
  refine ODS.read rfl rfl (e_textSV hg6.sv rfl rfl rfl rfl rfl) rfl ?_
  refine ODS.pure rfl rfl (e_bools (fun _ => rfl) (ne_texts _)) rfl ?_
  refine ODS.pure rfl rfl (fun _ => rfl) rfl ?_
  refine ODS.nil ?_
  refine LS.cond rfl (fun hc => by cases hc) (fun hc => ?_)
  refine LS.skip ?_
  refine LS.sub (gv_drop hg6) ?_
  clear hg hg4 hg6 hsub
  repeat refine LS.seq ?_
  refine LS.region rfl ?_
  refine OS.pure rfl (fun _ => rfl) rfl ?_
  refine OS.nil ?_
  repeat refine LS.seq ?_
  refine LS.mid [0, 1, 5, 7, 9, 17] (fun a L2 => L2 = rf rx rt c T (fm rm rb T ((r17, .cells 5 (byteCells (mb T))) :: (rs, .cells 43 [.int .i64 k, .int .i64 z]) :: L')) ∧
    a = [.int .i64 (N : Nat), l, .chan none, .chan none, .chan none, ptr rm, .chan none, ptr rx, .chan none, .int .i64 (i : Nat), .chan none, .chan none, .chan none, .chan none, .chan none, .chan none, .chan none, .slice (some ⟨r17, 0, none⟩) (mb T).length openCap, .chan none, .chan none, .chan none, .chan none, .chan none, .chan none, .chan none, .chan none, .chan none, .chan none, .chan none, .chan none, .chan none, .chan none, .chan none, .chan none, .chan none, .chan none, .chan none, .chan none, .chan none, .chan none, .chan none, .chan none, .chan none, .chan none, .chan none, .chan none, .chan none, .chan none, .chan none, .chan none, .chan none, .chan none, .chan none, .chan none, .chan none, .chan none, .chan none, .chan none, .chan none, .chan none, .chan none, .chan none, .chan none, .chan none, .chan none, .chan none, .chan none, .chan none, .chan none, .chan none, .chan none, .chan none, .chan none, .chan none, .chan none, .chan none, .chan none, .chan none, .chan none, .chan none, .chan none, .chan none, .chan none, .chan none, .chan none, .chan none, .chan none, .chan none, .chan none, .chan none, .chan none, .chan none, .chan none, .chan none, .chan none, .chan none, .chan none, .chan none, .chan none, .chan none, .chan none, .chan none, .chan none, .chan none, .chan none, .chan none, .chan none, .chan none, .chan none, .chan none, .chan none, .chan none, .chan none, .chan none, .chan none, .chan none, .chan none, .chan none, .chan none, .chan none, .chan none, .chan none, .chan none, .chan none, .chan none, .chan none, .chan none, .chan none, .chan none, .chan none, .chan none, .chan none, .chan none, .chan none, .chan none, .chan none, .chan none, .chan none, .chan none, .chan none, .chan none, .chan none, .chan none, .chan none, .chan none, .chan none, .chan none, .chan none, .chan none, .chan none, .chan none, .chan none, .chan none, .chan none, .chan none, .chan none, .chan none, .chan none, .chan none, .chan none, .chan none, .chan none, .chan none, .chan none, .chan none, .chan none, .chan none, .chan none, .chan none, .chan none, .chan none, .chan none, .chan none, .chan none, .chan none, .chan none, .chan none, .chan none, .chan none, .chan none, .chan none, .chan none, .chan none, .chan none, .chan none, .chan none, .chan none, .chan none, .chan none, .chan none, .chan none, .chan none]) ?_ ?_
  · rcases hY with ⟨rfl, h0, _, rfl⟩ | ⟨rl, rfl, hlc, rfl⟩
    · repeat refine LS.seq ?_
      refine LS.block ?_
      refine LS.loopJ [0, 1, 5, 7, 9, 16, 17, 18] (fun q a L2 => L2 = rf rx rt c T (fm rm rb T ((r17, .cells 5 (byteCells (mb T))) :: (rs, .cells 43 [.int .i64 k, .int .i64 z]) :: L')) ∧
        a = [.int .i64 (N : Nat), l, .chan none, .chan none, .chan none, ptr rm, .chan none, ptr rx, .chan none, .int .i64 (i : Nat), .chan none, .chan none, .chan none, .chan none, .chan none, .chan none, .slice none 0 0, .slice (some ⟨r17, 0, none⟩) (mb T).length openCap, .int .i64 0, .chan none, .chan none, .chan none, .chan none, .chan none, .chan none, .chan none, .chan none, .chan none, .chan none, .chan none, .chan none, .chan none, .chan none, .chan none, .chan none, .chan none, .chan none, .chan none, .chan none, .chan none, .chan none, .chan none, .chan none, .chan none, .chan none, .chan none, .chan none, .chan none, .chan none, .chan none, .chan none, .chan none, .chan none, .chan none, .chan none, .chan none, .chan none, .chan none, .chan none, .chan none, .chan none, .chan none, .chan none, .chan none, .chan none, .chan none, .chan none, .chan none, .chan none, .chan none, .chan none, .chan none, .chan none, .chan none, .chan none, .chan none, .chan none, .chan none, .chan none, .chan none, .chan none, .chan none, .chan none, .chan none, .chan none, .chan none, .chan none, .chan none, .chan none, .chan none, .chan none, .chan none, .chan none, .chan none, .chan none, .chan none, .chan none, .chan none, .chan none, .chan none, .chan none, .chan none, .chan none, .chan none, .chan none, .chan none, .chan none, .chan none, .chan none, .chan none, .chan none, .chan none, .chan none, .chan none, .chan none, .chan none, .chan none, .chan none, .chan none, .chan none, .chan none, .chan none, .chan none, .chan none, .chan none, .chan none, .chan none, .chan none, .chan none, .chan none, .chan none, .chan none, .chan none, .chan none, .chan none, .chan none, .chan none, .chan none, .chan none, .chan none, .chan none, .chan none, .chan none, .chan none, .chan none, .chan none, .chan none, .chan none, .chan none, .chan none, .chan none, .chan none, .chan none, .chan none, .chan none, .chan none, .chan none, .chan none, .chan none, .chan none, .chan none, .chan none, .chan none, .chan none, .chan none, .chan none, .chan none, .chan none, .chan none, .chan none, .chan none, .chan none, .chan none, .chan none, .chan none, .chan none, .chan none, .chan none, .chan none, .chan none, .chan none, .chan none, .chan none, .chan none, .chan none, .chan none, .chan none, .chan none, .chan none, .chan none, .chan none, .chan none]) (n := 0) rfl ⟨rfl, rfl⟩ ?_
      rintro q a L2 ⟨rfl, rfl⟩
      repeat refine LS.seq ?_
      refine LS.region rfl ?_
      refine OS.pure rfl (fun _ => rfl) rfl ?_
      refine OS.pure rfl (fun _ => rfl) rfl ?_
      refine OS.pure rfl (fun _ => rfl) rfl ?_
      refine OS.pure rfl (fun _ => rfl) rfl ?_
      refine OS.nil ?_
      repeat refine LS.seq ?_
      refine LS.cond rfl (fun hc => by cases hc) (fun hc => ?_)
      refine LS.exit ?_
      exact ⟨rfl, rfl⟩
    · repeat refine LS.seq ?_
      refine LS.block ?_
      refine LS.loopJ [0, 1, 5, 7, 9, 16, 17, 18] (fun q a L2 => ∃ (j : Nat) (cs : List Value), q = (lst' T).length - j ∧ j ≤ (lst' T).length ∧ cs.length = (lst' T).length ∧ L2 = rf rx rt c T (fm rm rb T ((r17, .cells 5 (byteCells (mb T))) :: (rs, .cells 43 [.int .i64 k, .int .i64 z]) :: (rl, .cells 3 cs) :: L')) ∧
        a = [.int .i64 (N : Nat), l, .chan none, .chan none, .chan none, ptr rm, .chan none, ptr rx, .chan none, .int .i64 (i : Nat), .chan none, .chan none, .chan none, .chan none, .chan none, .chan none, .slice (some ⟨rl, 0, none⟩) (lst' T).length openCap, .slice (some ⟨r17, 0, none⟩) (mb T).length openCap, .int .i64 (j : Nat), .chan none, .chan none, .chan none, .chan none, .chan none, .chan none, .chan none, .chan none, .chan none, .chan none, .chan none, .chan none, .chan none, .chan none, .chan none, .chan none, .chan none, .chan none, .chan none, .chan none, .chan none, .chan none, .chan none, .chan none, .chan none, .chan none, .chan none, .chan none, .chan none, .chan none, .chan none, .chan none, .chan none, .chan none, .chan none, .chan none, .chan none, .chan none, .chan none, .chan none, .chan none, .chan none, .chan none, .chan none, .chan none, .chan none, .chan none, .chan none, .chan none, .chan none, .chan none, .chan none, .chan none, .chan none, .chan none, .chan none, .chan none, .chan none, .chan none, .chan none, .chan none, .chan none, .chan none, .chan none, .chan none, .chan none, .chan none, .chan none, .chan none, .chan none, .chan none, .chan none, .chan none, .chan none, .chan none, .chan none, .chan none, .chan none, .chan none, .chan none, .chan none, .chan none, .chan none, .chan none, .chan none, .chan none, .chan none, .chan none, .chan none, .chan none, .chan none, .chan none, .chan none, .chan none, .chan none, .chan none, .chan none, .chan none, .chan none, .chan none, .chan none, .chan none, .chan none, .chan none, .chan none, .chan none, .chan none, .chan none, .chan none, .chan none, .chan none, .chan none, .chan none, .chan none, .chan none, .chan none, .chan none, .chan none, .chan none, .chan none, .chan none, .chan none, .chan none, .chan none, .chan none, .chan none, .chan none, .chan none, .chan none, .chan none, .chan none, .chan none, .chan none, .chan none, .chan none, .chan none, .chan none, .chan none, .chan none, .chan none, .chan none, .chan none, .chan none, .chan none, .chan none, .chan none, .chan none, .chan none, .chan none, .chan none, .chan none, .chan none, .chan none, .chan none, .chan none, .chan none, .chan none, .chan none, .chan none, .chan none, .chan none, .chan none, .chan none, .chan none, .chan none, .chan none, .chan none, .chan none, .chan none, .chan none, .chan none, .chan none, .chan none]) (n := (lst' T).length) rfl
        ⟨0, ints (lst' T), rfl, by omega, ints_len _, rfl, rfl⟩ ?_
      rintro q a L2 ⟨j, cs, rfl, hj, hcs, rfl, rfl⟩
      repeat refine LS.seq ?_
      refine LS.region rfl ?_
      refine OS.pure rfl (fun _ => rfl) rfl ?_
      refine OS.pure rfl (fun _ => rfl) rfl ?_
      refine OS.pure rfl (fun _ => rfl) rfl ?_
      refine OS.pure rfl (fun _ => rfl) rfl ?_
      refine OS.nil ?_
      repeat refine LS.seq ?_
      refine LS.cond rfl (fun hc => ?_) (fun hc => ?_)
      · have hc := lt_of hc
        have hjl : j < (lst' T).length := by omega
        refine LS.skip ?_
        repeat refine LS.seq ?_
        refine LS.block ?_
        repeat refine LS.seq ?_
        refine LS.region rfl ?_
        refine OS.pure rfl (fun _ => rfl) rfl ?_
        refine OS.pure rfl (fun _ => rfl) rfl ?_
        refine OS.pure rfl (e_index (j := j) (sz := 1) rfl rfl rfl rfl rfl hjl) rfl ?_
        refine OS.write rfl (e_store 6 (n := 1) (cs' := cs.set j (.int .i64 (-7))) rfl rfl rfl rfl rfl rfl (by rw [show 0 + j * 1 = j by omega]; exact lay_one (by omega)) rfl) rfl ?_
        refine OS.nil ?_
        repeat refine LS.seq ?_
        refine LS.region rfl ?_
        refine OS.pure rfl (fun _ => rfl) rfl ?_
        refine OS.pure rfl (e_add rfl rfl rfl (in_i64 (by omega) (by omega))) rfl ?_
        refine OS.pure rfl (fun _ => rfl) rfl ?_
        refine OS.nil ?_
        exact ⟨(lst' T).length - (j + 1), by omega, j + 1, _, rfl, by omega, by rw [List.length_set]; exact hcs, rfl, rfl⟩
      · refine LS.sub (Sub.drop 6 rfl) ?_
        refine LS.exit ?_
        exact ⟨rfl, rfl⟩
  rintro a L2 ⟨rfl, rfl⟩
  repeat refine LS.seq ?_
  refine LS.region rfl ?_
  refine OS.pure rfl (fun _ => rfl) rfl ?_
  refine OS.nil ?_
  repeat refine LS.seq ?_
  refine LS.block ?_
  refine LS.loopJ [0, 1, 5, 7, 9, 17, 19] (fun q a L2 => ∃ (j : Nat) (cs : List UInt8), q = (mb T).length - j ∧ j ≤ (mb T).length ∧ cs.length = (mb T).length ∧ L2 = rf rx rt c T (fm rm rb T ((r17, .cells 5 (byteCells cs)) :: (rs, .cells 43 [.int .i64 k, .int .i64 z]) :: L')) ∧
    a = [.int .i64 (N : Nat), l, .chan none, .chan none, .chan none, ptr rm, .chan none, ptr rx, .chan none, .int .i64 (i : Nat), .chan none, .chan none, .chan none, .chan none, .chan none, .chan none, .chan none, .slice (some ⟨r17, 0, none⟩) (mb T).length openCap, .chan none, .int .i64 (j : Nat), .chan none, .chan none, .chan none, .chan none, .chan none, .chan none, .chan none, .chan none, .chan none, .chan none, .chan none, .chan none, .chan none, .chan none, .chan none, .chan none, .chan none, .chan none, .chan none, .chan none, .chan none, .chan none, .chan none, .chan none, .chan none, .chan none, .chan none, .chan none, .chan none, .chan none, .chan none, .chan none, .chan none, .chan none, .chan none, .chan none, .chan none, .chan none, .chan none, .chan none, .chan none, .chan none, .chan none, .chan none, .chan none, .chan none, .chan none, .chan none, .chan none, .chan none, .chan none, .chan none, .chan none, .chan none, .chan none, .chan none, .chan none, .chan none, .chan none, .chan none, .chan none, .chan none, .chan none, .chan none, .chan none, .chan none, .chan none, .chan none, .chan none, .chan none, .chan none, .chan none, .chan none, .chan none, .chan none, .chan none, .chan none, .chan none, .chan none, .chan none, .chan none, .chan none, .chan none, .chan none, .chan none, .chan none, .chan none, .chan none, .chan none, .chan none, .chan none, .chan none, .chan none, .chan none, .chan none, .chan none, .chan none, .chan none, .chan none, .chan none, .chan none, .chan none, .chan none, .chan none, .chan none, .chan none, .chan none, .chan none, .chan none, .chan none, .chan none, .chan none, .chan none, .chan none, .chan none, .chan none, .chan none, .chan none, .chan none, .chan none, .chan none, .chan none, .chan none, .chan none, .chan none, .chan none, .chan none, .chan none, .chan none, .chan none, .chan none, .chan none, .chan none, .chan none, .chan none, .chan none, .chan none, .chan none, .chan none, .chan none, .chan none, .chan none, .chan none, .chan none, .chan none, .chan none, .chan none, .chan none, .chan none, .chan none, .chan none, .chan none, .chan none, .chan none, .chan none, .chan none, .chan none, .chan none, .chan none, .chan none, .chan none, .chan none, .chan none, .chan none, .chan none, .chan none, .chan none, .chan none, .chan none, .chan none, .chan none, .chan none]) (n := (mb T).length) rfl
    ⟨0, mb T, rfl, by omega, rfl, rfl, rfl⟩ ?_
  rintro q a L2 ⟨j, cs, rfl, hj, hcs, rfl, rfl⟩
  repeat refine LS.seq ?_
  refine LS.region rfl ?_
  refine OS.pure rfl (fun _ => rfl) rfl ?_
  refine OS.pure rfl (fun _ => rfl) rfl ?_
  refine OS.pure rfl (fun _ => rfl) rfl ?_
  refine OS.pure rfl (fun _ => rfl) rfl ?_
  refine OS.nil ?_
  repeat refine LS.seq ?_
  refine LS.cond rfl (fun hc => ?_) (fun hc => ?_)
  · have hc := lt_of hc
    have hjl : j < (mb T).length := by omega
    refine LS.skip ?_
    repeat refine LS.seq ?_
    refine LS.block ?_
    repeat refine LS.seq ?_
    refine LS.region rfl ?_
    refine OS.pure rfl (fun _ => rfl) rfl ?_
    refine OS.pure rfl (fun _ => rfl) rfl ?_
    refine OS.pure rfl (e_index (j := j) (sz := 1) rfl rfl rfl rfl rfl hjl) rfl ?_
    refine OS.write rfl (e_store 4 (n := 1) (cs' := byteCells (cs.set j 255)) rfl rfl rfl rfl rfl rfl (lay_u8 (cs := cs) 255 (by omega)) rfl) rfl ?_
    refine OS.nil ?_
    repeat refine LS.seq ?_
    refine LS.region rfl ?_
    refine OS.pure rfl (fun _ => rfl) rfl ?_
    refine OS.pure rfl (e_add rfl rfl rfl (in_i64 (by omega) (by omega))) rfl ?_
    refine OS.pure rfl (fun _ => rfl) rfl ?_
    refine OS.nil ?_
    exact ⟨(mb T).length - (j + 1), by omega, j + 1, _, rfl, by omega, by rw [List.length_set]; exact hcs, rfl, rfl⟩
  · refine LS.sub (Sub.drop 4 rfl) ?_
    refine LS.sub (Sub.drop 4 rfl) ?_
    refine LS.sub (Sub.pulls [3, 3] rfl) ?_
    refine LS.exit ?_
    exact ⟨rm, rb, rx, rt, c, T, hT, rfl, rfl⟩
end Go.Proofs.Ytlifdkihjnnonaa

/- Layer 11: one or more of a kind, with a word between each two. -/
import Derived.Test.YtdacddkelagdnaaEe
namespace Go.Proofs.Ytdacddkelagdnaa
open Go.Am
set_option linter.unusedVariables false
set_option maxRecDepth 20000
set_option maxHeartbeats 4000000
attribute [local irreducible] OS LSr ODS CS

/-- What comes of words, one element after the other. -/
theorem pr_p {k d : Nat} {w : List W} : pr (k + 1) .p d w = (pr k .t d w).bind fun t r => if r.head? = some wAnd then (pr k .p d r.tail).gl [t] else .ok (.cons t .nil) r := by
  conv => lhs; unfold pr
  congr 1
  funext t r
  cases r with
  | nil => rfl
  | cons y r =>
    by_cases h : y = wAnd
    · subst h
      simp only [if_true, List.head?_cons, List.tail_cons]
      cases pr k .p d r <;> rfl
    · simp only [h, if_false, List.head?_cons, Option.some.injEq]
theorem joined_p {N : Nat} (it : Ct 44 .t N) {rp d k : Nat} {s : Value} {w : List W} {G F : RL} (hN : w.length ≤ N) (hN2 : N ≤ 1000000) (hs : Wd G s w) (hG : ∀ p, p ∈ G → p ∈ F) (hd : d ≤ 64) (hk : fuel .p w ≤ k) :
    CS Try.prog 43 [ptr rp, .func (.func 44) #[ptr rp] #[], str wAnd] ((rp, PRow s d) :: F) (PostM .p G rp d F (pr k .p d w)) := by
  refine CS.mk (fn := Try.f43) rfl rfl rfl rfl ?_
  refine yG ?_
  refine LS.loopJ [0, 1, 2, 8] (fun q a L' => ∃ (acc : List X) (ts : List Value) (av : Value) (w' : List W) (s' : Value) (Y : RL) (k' : Nat) (M : RL), q = w'.length ∧ pr k .p d w = (pr k' .p d w').gl acc ∧ fuel .p w' ≤ k' ∧ w'.length ≤ N ∧ acc.length + w'.length ≤ N ∧ Wd G s' w' ∧ GV 59 1 (Y ++ F) av acc.length ts M ∧ Els Y .t acc ts ∧ L' = (rp, PRow s' d) :: M ∧ a = [ptr rp, .func (.func 44) #[ptr rp] #[], str wAnd, .chan none, .chan none, .chan none, .chan none, .chan none, av, .chan none, .chan none, .chan none, .chan none, .chan none, .chan none, .chan none, .chan none, .chan none, .chan none, .chan none, .chan none, .chan none, .chan none, .chan none, .chan none, .chan none, .chan none, .chan none]) (n := w.length) rfl ⟨[], [], .slice none 0 0, w, s, [], k, F, rfl, by cases pr k .p d w <;> rfl, hk, hN, by simpa using hN, hs, .nil, rfl, rfl, rfl⟩ ?_
  rintro q a L' ⟨acc, ts, av, w', s', Y, k', M, rfl, hres, hk', hN', hacc, hw, hg, hel, rfl, rfl⟩
  cases k' with
  | zero => simp [fuel, Md.n] at hk'
  | succ k' =>
  have hGM : ∀ p, p ∈ G → p ∈ M := fun p hp => hg.mem p (List.mem_append_right _ (hG p hp))
  have hit := it rp d k' s' w' G M hN' hN2 hw hGM hd (by simp [fuel, Md.n] at hk' ⊢; omega)
  rw [pr_p] at hres
  obtain ⟨res, hr⟩ : ∃ res, pr k' .t d w' = res := ⟨_, rfl⟩
  rw [hr] at hit hres
  repeat refine LS.seq ?_
  refine LS.block ?_
  refine yG ?_
  refine OS.call noGo rfl (fun _ => rfl) ((hit).mono ?_)
  cases res with
  | err e =>
    rintro v L' ⟨u, s2, Y2, rfl, he, rfl⟩
    rw [hres]
    obtain ⟨Y3, rfl, hY3⟩ : ∃ Y3, M = Y3 ++ F ∧ True := by
      rcases hg with ⟨_, _, _, rfl⟩ | ⟨r, _, _, rfl⟩
      · exact ⟨Y, rfl, trivial⟩
      · exact ⟨_ :: Y, rfl, trivial⟩
    rcases he with rfl | rfl
    · refine yG ?_
      exact ⟨_, s2, Y2 ++ Y3, rfl, .inl rfl, by rw [List.append_assoc]⟩
    · refine yG ?_
      exact ⟨_, s2, Y2 ++ Y3, rfl, .inr rfl, by rw [List.append_assoc]⟩
  | ok x r =>
    have hlt := pr_lt hr
    rintro v L' ⟨u, s2, Y2, rfl, rfl, hw2, hv⟩
    have hv0 := hv
    obtain ⟨d2, y2, rfl, _⟩ := hv0
    refine yG ?_
    refine OS.fresh rfl (e_new (fun _ => rfl) rfl) (fun _ => rfl) (fun r1 => ?_)
    refine OS.fresh rfl (e_appendGV ((r1, .cells 59 [Value.iface d2 y2]) :: (rp, PRow s2 d) :: Y2) (sz := 1) (bts := 16) (m := 1) (new := [Value.iface d2 y2]) hg (SV.row (List.mem_cons_self ..) rfl) (by decide) rfl rfl rfl rfl (by omega) (by omega)) (fun _ => rfl) (fun r2 => ?_)
    refine OS.sub (Sub.drop 1 rfl) ?_
    refine OS.sub (Sub.pulls [1] rfl) ?_
    refine yG ?_
    have hG2 : ∀ p, p ∈ G → p ∈ (r2, ARow.cells 59 (ts ++ [Value.iface d2 y2])) :: (Y2 ++ (Y ++ F)) := fun p hp => List.mem_cons_of_mem _ (List.mem_append_right _ (List.mem_append_right _ (hG p hp)))
    have hel2 : Els (Y2 ++ Y) .t (acc ++ [x]) (ts ++ [Value.iface d2 y2]) := (hel.mono fun p hp => List.mem_append_right _ hp).snoc (hv.mono fun p hp => List.mem_append_left _ hp)
    have hlen : (ts ++ [Value.iface d2 y2]).length = (acc.length + 1) * 1 := by simp [hel.len]
    by_cases h : r.head? = some wAnd
    · cases r with
      | nil => cases h
      | cons y r =>
        obtain rfl : y = wAnd := Option.some.inj h
        refine OS.call noGo rfl (fun _ => rfl) ((take_yes (x := wAnd) hw2 hG2).mono ?_)
        rintro v L' ⟨s3, rfl, rfl, hw3⟩
        refine yG ?_
        refine ⟨r.length, by simp at hlt; omega, acc ++ [x], ts ++ [Value.iface d2 y2], _, r, s3, Y2 ++ Y, k', _, rfl, ?_, by simp [fuel, Md.n] at hk' hlt ⊢; omega, by simp at hlt; omega, by simp at hlt ⊢; omega, hw3, ?_, hel2, rfl, rfl⟩
        · rw [hres]
          simp only [Rs.bind, List.head?_cons, if_true, List.tail_cons]
          cases pr k' .p d r with
          | err e => rfl
          | ok y r => simp [Rs.gl, gl]
        · rw [List.length_append, List.append_assoc]
          exact GV.of hlen
    · refine OS.call noGo rfl (fun _ => rfl) ((take_no (x := wAnd) hw2 hG2 h).mono ?_)
      rintro v L' ⟨rfl, rfl⟩
      refine yG ?_
      rw [hres]
      simp only [Rs.bind, h, if_false, Rs.gl, gl_snoc]
      exact ⟨_, s2, (r2, ARow.cells 59 (ts ++ [Value.iface d2 y2])) :: (Y2 ++ Y), rfl, by simp, hw2, _, _, _, _, rfl, SV.row (List.mem_cons_self ..) hlen, (hel2.mono fun p hp => List.mem_cons_of_mem _ hp).p⟩

/-- What comes of words, one element after the other. -/
theorem pr_c {k d : Nat} {w : List W} : pr (k + 1) .c d w = (pr k .p d w).bind fun t r => if r.head? = some wOr then (pr k .c d r.tail).gl [t] else .ok (.cons t .nil) r := by
  conv => lhs; unfold pr
  congr 1
  funext t r
  cases r with
  | nil => rfl
  | cons y r =>
    by_cases h : y = wOr
    · subst h
      simp only [if_true, List.head?_cons, List.tail_cons]
      cases pr k .c d r <;> rfl
    · simp only [h, if_false, List.head?_cons, Option.some.injEq]
theorem joined_c {N : Nat} (it : Ct 35 .p N) {rp d k : Nat} {s : Value} {w : List W} {G F : RL} (hN : w.length ≤ N) (hN2 : N ≤ 1000000) (hs : Wd G s w) (hG : ∀ p, p ∈ G → p ∈ F) (hd : d ≤ 64) (hk : fuel .c w ≤ k) :
    CS Try.prog 34 [ptr rp, .func (.func 35) #[ptr rp] #[], str wOr] ((rp, PRow s d) :: F) (PostM .c G rp d F (pr k .c d w)) := by
  refine CS.mk (fn := Try.f34) rfl rfl rfl rfl ?_
  refine yG ?_
  refine LS.loopJ [0, 1, 2, 8] (fun q a L' => ∃ (acc : List X) (ts : List Value) (av : Value) (w' : List W) (s' : Value) (Y : RL) (k' : Nat) (M : RL), q = w'.length ∧ pr k .c d w = (pr k' .c d w').gl acc ∧ fuel .c w' ≤ k' ∧ w'.length ≤ N ∧ acc.length + w'.length ≤ N ∧ Wd G s' w' ∧ GV 61 1 (Y ++ F) av acc.length ts M ∧ Els Y .p acc ts ∧ L' = (rp, PRow s' d) :: M ∧ a = [ptr rp, .func (.func 35) #[ptr rp] #[], str wOr, .chan none, .chan none, .chan none, .chan none, .chan none, av, .chan none, .chan none, .chan none, .chan none, .chan none, .chan none, .chan none, .chan none, .chan none, .chan none, .chan none, .chan none, .chan none, .chan none, .chan none, .chan none, .chan none, .chan none, .chan none]) (n := w.length) rfl ⟨[], [], .slice none 0 0, w, s, [], k, F, rfl, by cases pr k .c d w <;> rfl, hk, hN, by simpa using hN, hs, .nil, rfl, rfl, rfl⟩ ?_
  rintro q a L' ⟨acc, ts, av, w', s', Y, k', M, rfl, hres, hk', hN', hacc, hw, hg, hel, rfl, rfl⟩
  cases k' with
  | zero => simp [fuel, Md.n] at hk'
  | succ k' =>
  have hGM : ∀ p, p ∈ G → p ∈ M := fun p hp => hg.mem p (List.mem_append_right _ (hG p hp))
  have hit := it rp d k' s' w' G M hN' hN2 hw hGM hd (by simp [fuel, Md.n] at hk' ⊢; omega)
  rw [pr_c] at hres
  obtain ⟨res, hr⟩ : ∃ res, pr k' .p d w' = res := ⟨_, rfl⟩
  rw [hr] at hit hres
  repeat refine LS.seq ?_
  refine LS.block ?_
  refine yG ?_
  refine OS.call noGo rfl (fun _ => rfl) ((hit).mono ?_)
  cases res with
  | err e =>
    rintro v L' ⟨u, s2, Y2, rfl, he, rfl⟩
    rw [hres]
    obtain ⟨Y3, rfl, hY3⟩ : ∃ Y3, M = Y3 ++ F ∧ True := by
      rcases hg with ⟨_, _, _, rfl⟩ | ⟨r, _, _, rfl⟩
      · exact ⟨Y, rfl, trivial⟩
      · exact ⟨_ :: Y, rfl, trivial⟩
    rcases he with rfl | rfl
    · refine yG ?_
      exact ⟨_, s2, Y2 ++ Y3, rfl, .inl rfl, by rw [List.append_assoc]⟩
    · refine yG ?_
      exact ⟨_, s2, Y2 ++ Y3, rfl, .inr rfl, by rw [List.append_assoc]⟩
  | ok x r =>
    have hlt := pr_lt hr
    rintro v L' ⟨u, s2, Y2, rfl, rfl, hw2, hv⟩
    have hv0 := hv
    obtain ⟨A2, n2, c2, t2, rfl, _⟩ := hv0
    refine yG ?_
    refine OS.fresh rfl (e_new (fun _ => rfl) rfl) (fun _ => rfl) (fun r1 => ?_)
    refine OS.fresh rfl (e_appendGV ((r1, .cells 61 [Value.slice A2 n2 c2]) :: (rp, PRow s2 d) :: Y2) (sz := 1) (bts := 24) (m := 1) (new := [Value.slice A2 n2 c2]) hg (SV.row (List.mem_cons_self ..) rfl) (by decide) rfl rfl rfl rfl (by omega) (by omega)) (fun _ => rfl) (fun r2 => ?_)
    refine OS.sub (Sub.drop 1 rfl) ?_
    refine OS.sub (Sub.pulls [1] rfl) ?_
    refine yG ?_
    have hG2 : ∀ p, p ∈ G → p ∈ (r2, ARow.cells 61 (ts ++ [Value.slice A2 n2 c2])) :: (Y2 ++ (Y ++ F)) := fun p hp => List.mem_cons_of_mem _ (List.mem_append_right _ (List.mem_append_right _ (hG p hp)))
    have hel2 : Els (Y2 ++ Y) .p (acc ++ [x]) (ts ++ [Value.slice A2 n2 c2]) := (hel.mono fun p hp => List.mem_append_right _ hp).snoc (hv.mono fun p hp => List.mem_append_left _ hp)
    have hlen : (ts ++ [Value.slice A2 n2 c2]).length = (acc.length + 1) * 1 := by simp [hel.len]
    by_cases h : r.head? = some wOr
    · cases r with
      | nil => cases h
      | cons y r =>
        obtain rfl : y = wOr := Option.some.inj h
        refine OS.call noGo rfl (fun _ => rfl) ((take_yes (x := wOr) hw2 hG2).mono ?_)
        rintro v L' ⟨s3, rfl, rfl, hw3⟩
        refine yG ?_
        refine ⟨r.length, by simp at hlt; omega, acc ++ [x], ts ++ [Value.slice A2 n2 c2], _, r, s3, Y2 ++ Y, k', _, rfl, ?_, by simp [fuel, Md.n] at hk' hlt ⊢; omega, by simp at hlt; omega, by simp at hlt ⊢; omega, hw3, ?_, hel2, rfl, rfl⟩
        · rw [hres]
          simp only [Rs.bind, List.head?_cons, if_true, List.tail_cons]
          cases pr k' .c d r with
          | err e => rfl
          | ok y r => simp [Rs.gl, gl]
        · rw [List.length_append, List.append_assoc]
          exact GV.of hlen
    · refine OS.call noGo rfl (fun _ => rfl) ((take_no (x := wOr) hw2 hG2 h).mono ?_)
      rintro v L' ⟨rfl, rfl⟩
      refine yG ?_
      rw [hres]
      simp only [Rs.bind, h, if_false, Rs.gl, gl_snoc]
      exact ⟨_, s2, (r2, ARow.cells 61 (ts ++ [Value.slice A2 n2 c2])) :: (Y2 ++ Y), rfl, by simp, hw2, _, _, _, _, rfl, SV.row (List.mem_cons_self ..) hlen, (hel2.mono fun p hp => List.mem_cons_of_mem _ hp).c⟩
end Go.Proofs.Ytdacddkelagdnaa

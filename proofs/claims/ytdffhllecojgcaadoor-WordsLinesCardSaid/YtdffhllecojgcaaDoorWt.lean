/- Layer 2: the lines of a text, as the library tells them one by one. -/
import Derived.Test.YtdffhllecojgcaaDoorWs
import Derived.Test.YtdffhllecojgcaaDoorAmR
namespace Go.Am
section
variable {P : Program} {a : Slots} {L : RL}
theorem res_cell3 (i1 i2 i3 : Nat) {x1 x2 x3 r1 r2 r3 : Nat} {t1 t2 t3 : TypeId} {row1 row2 row3 : ARow} {c1 c2 c3 : List Value} {v1 v2 v3 : Value}
    (hx1 : a[x1]? = some (.pointer (some ⟨r1, 0, none⟩))) (hx2 : a[x2]? = some (.pointer (some ⟨r2, 0, none⟩))) (hx3 : a[x3]? = some (.pointer (some ⟨r3, 0, none⟩)))
    (hL1 : L[i1]? = some (r1, row1)) (hL2 : L[i2]? = some (r2, row2)) (hL3 : L[i3]? = some (r3, row3)) (hc1 : rdRow row1 = some c1) (hc2 : rdRow row2 = some c2) (hc3 : rdRow row3 = some c3)
    (hv1 : partB P t1 c1 0 = some v1) (hv2 : partB P t2 c2 0 = some v2) (hv3 : partB P t3 c3 0 = some v3) : ∀ h, Has h L → resultsB P a h [.cell x1 t1, .cell x2 t2, .cell x3 t3] = some [v1, v2, v3] := by
  intro h H
  simp only [resultsB, hx1, hx2, hx3, loadB, H.read hL1 hc1, H.read hL2 hc2, H.read hL3 hc3, hv1, hv2, hv3]
end
theorem Sub.rot {X G : RL} : Sub (G ++ X) (X ++ G) := ⟨[], by simpa using List.perm_append_comm⟩
end Go.Am
namespace Go.Proofs.YtdffhllecojgcaaDoor
open Go.Am
set_option linter.unusedVariables false
set_option maxRecDepth 20000

theorem IndexN_ct {L : RL} (s : List UInt8) : CS Tryd.prog 48 [str s, str [10]] L fun v L' => v = .int .i64 (Lib.indexByte s 10) ∧ L' = L := by
  have k1 : CS Tryd.prog 64 [str s, .int .u8 10] L fun v L' => v = .int .i64 (Lib.indexByte s 10) ∧ L' = L := by
    refine CS.mk (fn := Tryd.f64) rfl rfl rfl rfl ?_
    repeat refine LS.seq ?_
    refine LS.region rfl ?_
    refine OS.pure rfl (fun _ => rfl) rfl ?_
    refine OS.nil ?_
    repeat refine LS.seq ?_
    refine LS.region rfl ?_
    refine OS.pure rfl (fun _ => rfl) rfl ?_
    refine OS.pure rfl (fun _ => rfl) rfl ?_
    refine OS.ext (index_ext s 10) rfl (fun _ => rfl) rfl ?_
    refine OS.pure rfl (fun _ => rfl) rfl ?_
    refine OS.nil ?_
    refine LS.ret ⟨_, fun _ _ => rfl, ?_⟩
    exact ⟨rfl, rfl⟩
  have k2 : CS Tryd.prog 60 [str s, str [10]] L fun v L' => v = .int .i64 (Lib.indexByte s 10) ∧ L' = L := by
    refine CS.mk (fn := Tryd.f60) rfl rfl rfl rfl ?_
    repeat refine LS.seq ?_
    refine LS.region rfl ?_
    refine OS.pure rfl (fun _ => rfl) rfl ?_
    refine OS.nil ?_
    repeat refine LS.seq ?_
    refine LS.region rfl ?_
    refine OS.pure rfl (fun _ => rfl) rfl ?_
    refine OS.pure rfl (fun _ => rfl) rfl ?_
    refine OS.pure rfl (fun _ => rfl) rfl ?_
    refine OS.nil ?_
    repeat refine LS.seq ?_
    refine LS.block ?_
    repeat refine LS.seq ?_
    refine LS.region rfl ?_
    refine OS.pure rfl (fun _ => rfl) rfl ?_
    refine OS.pure rfl (fun _ => rfl) rfl ?_
    refine OS.pure rfl (fun _ => rfl) rfl ?_
    refine OS.pure rfl (fun _ => rfl) rfl ?_
    refine OS.pure rfl (fun _ => rfl) rfl ?_
    refine OS.pure rfl (fun _ => rfl) rfl ?_
    refine OS.pure rfl (fun _ => rfl) rfl ?_
    refine OS.pure rfl (fun _ => rfl) rfl ?_
    refine OS.nil ?_
    repeat refine LS.seq ?_
    refine LS.cond rfl (fun hc => ?_) (fun hc => ?_)
    · have hc : bytesEq [10] s = true := hc
      rw [bytesEq_eq] at hc
      have h0 : s = [10] := (by simpa using hc : [10] = s).symm
      subst h0
      repeat refine LS.seq ?_
      refine LS.region rfl ?_
      refine OS.pure rfl (fun _ => rfl) rfl ?_
      refine OS.nil ?_
      refine LS.ret ⟨_, fun _ _ => rfl, ?_⟩
      exact ⟨rfl, rfl⟩
    repeat refine LS.seq ?_
    refine LS.region rfl ?_
    refine OS.pure rfl (fun _ => rfl) rfl ?_
    refine OS.pure rfl (fun _ => rfl) rfl ?_
    refine OS.pure rfl (fun _ => rfl) rfl ?_
    refine OS.nil ?_
    repeat refine LS.seq ?_
    refine LS.cond rfl (fun hc => ?_) (fun hc => ?_)
    · repeat refine LS.seq ?_
      refine LS.region rfl ?_
      refine OS.pure rfl (fun _ => rfl) rfl ?_
      refine OS.pure rfl (fun _ => rfl) rfl ?_
      refine OS.pure rfl (fun _ => rfl) rfl ?_
      refine OS.call noGo rfl (fun _ => rfl) ((k1).mono ?_)
      rintro v L' ⟨rfl, rfl⟩
      refine ⟨_, rfl, ?_⟩
      refine OS.pure rfl (fun _ => rfl) rfl ?_
      refine OS.nil ?_
      refine LS.ret ⟨_, fun _ _ => rfl, ?_⟩
      exact ⟨rfl, rfl⟩
    · cases hc
  refine CS.mk (fn := Tryd.f48) rfl rfl rfl rfl ?_
  repeat refine LS.seq ?_
  refine LS.region rfl ?_
  refine OS.pure rfl (fun _ => rfl) rfl ?_
  refine OS.nil ?_
  repeat refine LS.seq ?_
  refine LS.region rfl ?_
  refine OS.pure rfl (fun _ => rfl) rfl ?_
  refine OS.pure rfl (fun _ => rfl) rfl ?_
  refine OS.call noGo rfl (fun _ => rfl) ((k2).mono ?_)
  rintro v L' ⟨rfl, rfl⟩
  refine ⟨_, rfl, ?_⟩
  refine OS.pure rfl (fun _ => rfl) rfl ?_
  refine OS.nil ?_
  refine LS.ret ⟨_, fun _ _ => rfl, ?_⟩
  exact ⟨rfl, rfl⟩
theorem index_cases (s : List UInt8) : (10 ∉ s ∧ Lib.indexByte s 10 = -1) ∨ ∃ a t, s = a ++ 10 :: t ∧ 10 ∉ a ∧ Lib.indexByte s 10 = (a.length : Nat) := by
  induction s with
  | nil => exact .inl ⟨by simp, rfl⟩
  | cons b l ih =>
    unfold Lib.indexByte
    by_cases hb : b = 10
    · subst hb
      exact .inr ⟨[], l, rfl, by simp, by simp⟩
    · have hb' : (b == 10) = false := by simpa using hb
      rw [hb']
      simp only [Bool.false_eq_true, if_false]
      rcases ih with ⟨h1, h2⟩ | ⟨a, t, rfl, h1, h2⟩
      · rw [h2]
        exact .inl ⟨by simp only [List.mem_cons, not_or]; exact ⟨fun h => hb h.symm, h1⟩, rfl⟩
      · rw [h2]
        refine .inr ⟨b :: a, t, rfl, by simp only [List.mem_cons, not_or]; exact ⟨fun h => hb h.symm, h1⟩, ?_⟩
        have : (((a.length : Nat) : Int) == -1) = false := by simp
        rw [this]; simp
/-- What a range over lines holds: the separator, what is left, what is kept of separators. -/
abbrev SR (rp rs rv : Nat) (t : List UInt8) : RL := [(rp, .cells 9 [str [10]]), (rs, .cells 9 [str t]), (rv, .cells 3 [.int .i64 0])]
theorem SplitSeq_ct {L : RL} (s : List UInt8) : CS Tryd.prog 27 [str s, str [10]] L fun v L' => ∃ rp rs rv, v = .func (.func 52) #[] #[ptr rp, ptr rs, ptr rv] ∧ L' = (rv, .cells 3 [.int .i64 0]) :: (rp, .cells 9 [str [10]]) :: (rs, .cells 9 [str s]) :: L := by
  have key : CS Tryd.prog 38 [str s, str [10], .int .i64 0] L fun v L' => ∃ rp rs rv, v = .func (.func 52) #[] #[ptr rp, ptr rs, ptr rv] ∧ L' = (rv, .cells 3 [.int .i64 0]) :: (rp, .cells 9 [str [10]]) :: (rs, .cells 9 [str s]) :: L := by
    refine CS.mk (fn := Tryd.f38) rfl rfl rfl rfl ?_
    repeat refine LS.seq ?_
    refine LS.region rfl ?_
    refine OS.fresh rfl (e_box rfl rfl ⟨rfl, rfl⟩ rfl) (fun _ => rfl) (fun rs => ?_)
    refine OS.fresh rfl (e_box rfl rfl ⟨rfl, rfl⟩ rfl) (fun _ => rfl) (fun rp => ?_)
    refine OS.fresh rfl (e_box rfl rfl ⟨rfl, rfl⟩ rfl) (fun _ => rfl) (fun rv => ?_)
    refine OS.pure rfl (fun _ => rfl) rfl ?_
    refine OS.nil ?_
    repeat refine LS.seq ?_
    refine LS.region rfl ?_
    refine OS.pure rfl (fun _ => rfl) rfl ?_
    refine OS.pure rfl (fun _ => rfl) rfl ?_
    refine OS.nil ?_
    refine LS.ret ⟨_, fun _ _ => rfl, ?_⟩
    exact ⟨rp, rs, rv, rfl, rfl⟩
  refine CS.mk (fn := Tryd.f27) rfl rfl rfl rfl ?_
  repeat refine LS.seq ?_
  refine LS.region rfl ?_
  refine OS.pure rfl (fun _ => rfl) rfl ?_
  refine OS.nil ?_
  repeat refine LS.seq ?_
  refine LS.region rfl ?_
  refine OS.pure rfl (fun _ => rfl) rfl ?_
  refine OS.pure rfl (fun _ => rfl) rfl ?_
  refine OS.call noGo rfl (fun _ => rfl) ((key).mono ?_)
  rintro v L' ⟨rp, rs, rv, rfl, rfl⟩
  refine ⟨_, rfl, ?_⟩
  refine OS.pure rfl (fun _ => rfl) rfl ?_
  refine OS.nil ?_
  refine LS.ret ⟨_, fun _ _ => rfl, ?_⟩
  exact ⟨rp, rs, rv, rfl, rfl⟩
/-- The iterator: whatever a round does to rows of its own, the lines are told in their order, as long as rounds ask for more. -/
theorem lines1_ct {rp rs rv r : Nat} {s : List UInt8} {G : RL} (hs : s.length ≤ 9000000000000000) (J : List UInt8 → RL → Prop) (D : RL → Prop) (hr : ∀ t G, J t G → ∃ p, (r, .loop p) ∈ G) (h0 : J s G)
    (hmid : ∀ a t G X, 10 ∉ a → a.length + 1 + t.length ≤ s.length → J (a ++ 10 :: t) G → YS Tryd.prog r [str a] (G ++ X) fun v L' => ∃ G' b, v = .bool b ∧ L' = G' ++ X ∧ if b = true then J t G' else D G')
    (hend : ∀ a G X, 10 ∉ a → a.length ≤ s.length → J a G → YS Tryd.prog r [str a] (G ++ X) fun v L' => ∃ G' b, v = .bool b ∧ L' = G' ++ X ∧ D G') :
    CS Tryd.prog 52 [.func (.yield r) #[] #[], ptr rp, ptr rs, ptr rv] (SR rp rs rv s ++ G) fun v L' => ∃ G' t, D G' ∧ L' = SR rp rs rv t ++ G' := by
  refine CS.mk (fn := Tryd.f52) rfl rfl rfl rfl ?_
  repeat refine LS.seq ?_
  refine LS.region rfl ?_
  refine OS.read rfl (e_load 0 rfl rfl rfl rfl rfl) rfl ?_
  refine OS.pure rfl (fun _ => rfl) rfl ?_
  refine OS.pure rfl (fun _ => rfl) rfl ?_
  refine OS.nil ?_
  repeat refine LS.seq ?_
  refine LS.cond rfl (fun h => ?_) (fun h => ?_)
  · cases h
  refine LS.skip ?_
  repeat refine LS.seq ?_
  refine LS.block ?_
  refine LS.loopJ [0, 1, 2, 3] (fun q a L' => ∃ t G, q = t.length ∧ t.length ≤ s.length ∧ J t G ∧ L' = SR rp rs rv t ++ G ∧ a = [.func (.yield r) #[] #[], ptr rp, ptr rs, ptr rv, .chan none, .chan none, .chan none, .chan none, .chan none, .chan none, .chan none, .chan none, .chan none, .chan none, .chan none, .chan none, .chan none, .chan none, .chan none, .chan none, .chan none, .chan none, .chan none, .chan none, .chan none, .chan none, .chan none, .chan none, .chan none, .chan none, .chan none, .chan none, .chan none, .chan none, .chan none, .chan none, .chan none, .chan none, .chan none, .chan none, .chan none, .chan none, .chan none, .chan none, .chan none, .chan none, .chan none, .chan none, .chan none, .chan none, .chan none, .chan none]) (n := s.length) rfl ⟨s, G, rfl, by omega, h0, rfl, rfl⟩ ?_
  rintro q a L' ⟨t, G, rfl, ht, hJ, rfl, rfl⟩
  obtain ⟨p, hp⟩ := hr t G hJ
  repeat refine LS.seq ?_
  refine LS.block ?_
  repeat refine LS.seq ?_
  refine LS.region rfl ?_
  refine OS.read rfl (e_load 1 rfl rfl rfl rfl rfl) rfl ?_
  refine OS.read rfl (e_load 0 rfl rfl rfl rfl rfl) rfl ?_
  refine OS.call noGo rfl (fun _ => rfl) ((IndexN_ct t).mono ?_)
  rintro v L' ⟨rfl, rfl⟩
  refine ⟨_, rfl, ?_⟩
  refine OS.pure rfl (fun _ => rfl) rfl ?_
  refine OS.nil ?_
  rcases index_cases t with ⟨hno, hi⟩ | ⟨a, u, rfl, hno, hi⟩
  · rw [hi]
    repeat refine LS.seq ?_
    refine LS.region rfl ?_
    refine OS.pure rfl (fun _ => rfl) rfl ?_
    refine OS.pure rfl (fun _ => rfl) rfl ?_
    refine OS.nil ?_
    repeat refine LS.seq ?_
    refine LS.cond rfl (fun h => ?_) (fun h => ?_)
    · refine LS.exit ?_
      repeat refine LS.seq ?_
      refine LS.region rfl ?_
      refine OS.pure rfl (fun _ => rfl) rfl ?_
      refine OS.read rfl (e_load 1 rfl rfl rfl rfl rfl) rfl ?_
      refine OS.yield rfl rfl rfl rfl rfl ⟨p, by simp [hp]⟩ (YS.sub (L' := G ++ SR rp rs rv t) (Sub.rot (X := SR rp rs rv t)) ((hend t G (SR rp rs rv t) hno ht hJ).mono ?_))
      rintro v L' ⟨G', b, rfl, rfl, hD⟩
      refine ⟨_, rfl, ?_⟩
      refine OS.sub (Sub.rot (G := SR rp rs rv t) (X := G')) ?_
      refine OS.nil ?_
      refine ⟨_, fun _ _ => rfl, G', t, hD, rfl⟩
    · cases h
  · rw [hi]
    have hal : (a ++ 10 :: u).length = a.length + (u.length + 1) := by simp
    have b1 : (!ileB 0 ((a.length : Nat) : Int)) = false := by rw [ileB_eq]; simp
    repeat refine LS.seq ?_
    refine LS.region rfl ?_
    refine OS.pure rfl (fun _ => rfl) rfl ?_
    refine OS.pure rfl (e_is (fun _ => rfl) (congrArg Value.bool b1)) rfl ?_
    refine OS.nil ?_
    repeat refine LS.seq ?_
    refine LS.cond rfl (fun h => ?_) (fun h => ?_)
    · cases h
    refine LS.skip ?_
    repeat refine LS.seq ?_
    refine LS.region rfl ?_
    refine OS.read rfl (e_load 1 rfl rfl rfl rfl rfl) rfl ?_
    refine OS.pure rfl (fun _ => rfl) rfl ?_
    refine OS.read rfl (e_load 2 rfl rfl rfl rfl rfl) rfl ?_
    refine OS.pure rfl (e_add (m := (a.length : Nat)) (n := 0) rfl rfl rfl (in_i64 (by omega) (by omega))) rfl ?_
    rw [Int.add_zero]
    refine OS.pure rfl (e_part (s := a ++ 10 :: u) (l := 0) (u := a.length) rfl rfl rfl rfl rfl (bound_nat (d := (a ++ 10 :: u).length)) rfl (by omega) (by omega)) rfl ?_
    have e1 : ((a ++ 10 :: u).drop 0).take (a.length - 0) = a := by simp
    rw [e1]
    refine OS.pure rfl (fun _ => rfl) rfl ?_
    refine OS.nil ?_
    repeat refine LS.seq ?_
    refine LS.region rfl ?_
    refine OS.pure rfl (fun _ => rfl) rfl ?_
    refine OS.pure rfl (fun _ => rfl) rfl ?_
    refine OS.yield rfl rfl rfl rfl rfl ⟨p, by simp [hp]⟩ (YS.sub (L' := G ++ SR rp rs rv (a ++ 10 :: u)) (Sub.rot (X := SR rp rs rv (a ++ 10 :: u))) ((hmid a u G (SR rp rs rv (a ++ 10 :: u)) hno (by omega) hJ).mono ?_))
    rintro v L' ⟨G', b, rfl, rfl, hb⟩
    refine ⟨_, rfl, ?_⟩
    refine OS.sub (Sub.rot (G := SR rp rs rv (a ++ 10 :: u)) (X := G')) ?_
    cases b with
    | false =>
      refine OS.pure rfl (fun _ => rfl) rfl ?_
      refine OS.nil ?_
      repeat refine LS.seq ?_
      refine LS.cond rfl (fun h => ?_) (fun h => ?_)
      · refine LS.ret ⟨_, fun _ _ => rfl, ?_⟩
        exact ⟨G', _, by simpa using hb, rfl⟩
      · cases h
    | true =>
      refine OS.pure rfl (fun _ => rfl) rfl ?_
      refine OS.nil ?_
      repeat refine LS.seq ?_
      refine LS.cond rfl (fun h => ?_) (fun h => ?_)
      · cases h
      refine LS.skip ?_
      repeat refine LS.seq ?_
      refine LS.region rfl ?_
      refine OS.read rfl (e_load 1 rfl rfl rfl rfl rfl) rfl ?_
      refine OS.pure rfl (fun _ => rfl) rfl ?_
      refine OS.read rfl (e_load 0 rfl rfl rfl rfl rfl) rfl ?_
      refine OS.pure rfl (fun _ => rfl) rfl ?_
      refine OS.pure rfl (e_add (m := (a.length : Nat)) (n := 1) rfl rfl rfl (in_i64 (by omega) (by omega))) rfl ?_
      rw [show ((a.length : Nat) : Int) + 1 = ((a.length + 1 : Nat) : Int) by omega]
      refine OS.pure rfl (e_part (s := a ++ 10 :: u) (l := a.length + 1) (u := (a ++ 10 :: u).length) rfl rfl rfl rfl (bound_nat (d := 0)) rfl rfl (by omega) (by omega)) rfl ?_
      have e2 : ((a ++ 10 :: u).drop (a.length + 1)).take ((a ++ 10 :: u).length - (a.length + 1)) = u := by
        rw [List.take_of_length_le (by rw [List.length_drop]; omega)]
        rw [show a ++ 10 :: u = (a ++ [10]) ++ u by simp, show a.length + 1 = (a ++ [10]).length by simp, List.drop_left]
      rw [e2]
      refine OS.write rfl (e_store 1 rfl rfl rfl rfl rfl rfl rfl rfl) rfl ?_
      refine OS.nil ?_
      exact ⟨u.length, by omega, u, G', rfl, by omega, by simpa using hb, rfl, rfl⟩
end Go.Proofs.YtdffhllecojgcaaDoor

/- Layer 5: List: a range over a function. -/
import Derived.Test.YtlifdkihjnnonaaFd
namespace Go.Am
theorem Sub.rot {X G : RL} : Sub (G ++ X) (X ++ G) := ⟨[], by simpa using List.perm_append_comm⟩
theorem GV.appendR {e : TypeId} {sz n : Nat} {F L : RL} {v : Value} {cs : List Value} (X : RL) (g : GV e sz F v n cs L) : GV e sz (F ++ X) v n cs (L ++ X) := by
  rcases g with ⟨rfl, rfl, rfl, rfl⟩ | ⟨r, rfl, hl, rfl⟩
  · exact .inl ⟨rfl, rfl, rfl, rfl⟩
  · exact .inr ⟨r, rfl, hl, rfl⟩
theorem GV.one {e : TypeId} {sz n : Nat} {F L : RL} {v : Value} {cs : List Value} (g : GV e sz F v n cs L) : oneB v = true ∧ v.cells.toList = [v] := by
  rcases g with ⟨rfl, _, _, _⟩ | ⟨r, rfl, _, _⟩ <;> exact ⟨rfl, rfl⟩
end Go.Am
namespace Go.Proofs.Ytlifdkihjnnonaa
open Go.Am
set_option linter.unusedVariables false
set_option maxRecDepth 20000

/-- Numbers, as cells. -/
def ints (l : List Nat) : List Value := l.map fun k => .int .i64 (k : Nat)
theorem ints_len (l : List Nat) : (ints l).length = l.length := by simp [ints]
theorem ints_snoc (l : List Nat) (k : Nat) : ints (l ++ [k]) = ints l ++ [.int .i64 (k : Nat)] := by simp [ints]

abbrev boxRow (rm : Nat) : ARow := .cells 23 [ptr rm]
theorem taken_ct {L : RL} {rm : Nat} : CS Try.prog 44 [ptr rm] L fun v L' => ∃ rbx, v = .func (.func 55) #[] #[ptr rbx] ∧ L' = (rbx, boxRow rm) :: L := by
  refine CS.mk (fn := Try.f44) rfl rfl rfl rfl ?_
  repeat refine LS.seq ?_
  refine LS.region rfl ?_
  refine OS.fresh rfl (e_new (fun _ => rfl) rfl) (fun _ => rfl) (fun rbx => ?_)
  refine OS.pure rfl (fun _ => rfl) rfl ?_
  refine OS.nil ?_
  repeat refine LS.seq ?_
  refine LS.region rfl ?_
  refine OS.pure rfl (fun _ => rfl) rfl ?_
  refine OS.pure rfl (fun _ => rfl) rfl ?_
  refine OS.nil ?_
  refine LS.ret ⟨_, fun _ _ => rfl, ?_⟩
  exact ⟨rbx, rfl, rfl⟩

/-- The iterator: whatever a round does to rows of its own, each taken block is told once, rising. -/
theorem taken1_ct {rm rb rbx r : Nat} {T : List Bool} {G : RL} (hT : T.length ≤ 32768) (J : Nat → RL → Prop) (hr : ∀ k G, J k G → ∃ p, (r, .loop p) ∈ G) (h0 : J 0 G) (hno : ∀ k G, J k G → tkn T k = false → J (k + 1) G)
    (hyes : ∀ k G X, k < T.length → J k G → tkn T k = true → YS Try.prog r [.int .i64 (k : Nat)] (G ++ X) fun v L' => ∃ G', v = .bool true ∧ L' = G' ++ X ∧ J (k + 1) G') :
    CS Try.prog 55 [.func (.yield r) #[] #[], ptr rbx] (fm rm rb T ((rbx, boxRow rm) :: G)) fun v L' => ∃ G', J T.length G' ∧ L' = fm rm rb T ((rbx, boxRow rm) :: G') := by
  refine CS.mk (fn := Try.f55) rfl rfl rfl rfl ?_
  repeat refine LS.seq ?_
  refine LS.region rfl ?_
  refine OS.read rfl (e_load 2 rfl rfl rfl rfl rfl) rfl ?_
  refine OS.call noGo rfl (fun _ => rfl) ((Len_ct).mono ?_)
  rintro v L' ⟨rfl, rfl⟩
  refine ⟨_, rfl, ?_⟩
  refine OS.pure rfl (fun _ => rfl) rfl ?_
  refine OS.nil ?_
  repeat refine LS.seq ?_
  refine LS.block ?_
  refine LS.loopJ [0, 1, 5, 6] (fun q a L' => ∃ k G, q = T.length - k ∧ k ≤ T.length ∧ J k G ∧ L' = fm rm rb T ((rbx, boxRow rm) :: G) ∧
    a = [.func (.yield r) #[] #[], ptr rbx, .chan none, .chan none, .chan none, .int .i64 (T.length : Nat), .int .i64 (k : Nat), .chan none, .chan none, .chan none, .chan none, .chan none, .chan none, .chan none, .chan none, .chan none, .chan none, .chan none, .chan none]) (n := T.length) rfl ⟨0, G, rfl, by omega, h0, rfl, rfl⟩ ?_
  rintro q a L' ⟨k, G, rfl, hk, hJ, rfl, rfl⟩
  repeat refine LS.seq ?_
  refine LS.region rfl ?_
  refine OS.pure rfl (fun _ => rfl) rfl ?_
  refine OS.nil ?_
  repeat refine LS.seq ?_
  refine LS.cond rfl (fun hc => ?_) (fun hc => ?_)
  · have hc := lt_of hc
    have hkl : k < T.length := by omega
    refine LS.skip ?_
    repeat refine LS.seq ?_
    refine LS.block ?_
    repeat refine LS.seq ?_
    refine LS.region rfl ?_
    refine OS.pure rfl (fun _ => rfl) rfl ?_
    refine OS.pure rfl (fun _ => rfl) rfl ?_
    refine OS.nil ?_
    refine LS.seq ?_
    refine LS.mid [0, 1, 5, 6, 17] (fun a L' => ∃ G', J (k + 1) G' ∧ L' = fm rm rb T ((rbx, boxRow rm) :: G') ∧ a = [.func (.yield r) #[] #[], ptr rbx, .chan none, .chan none, .chan none, .int .i64 (T.length : Nat), .int .i64 (k : Nat), .chan none, .chan none, .chan none, .chan none, .chan none, .chan none, .chan none, .chan none, .chan none, .chan none, .bool false, .chan none]) ?_ ?_
    · repeat refine LS.seq ?_
      refine LS.region rfl ?_
      refine OS.read rfl (e_load 2 rfl rfl rfl rfl rfl) rfl ?_
      refine OS.pure rfl (fun _ => rfl) rfl ?_
      refine OS.call noGo rfl (fun _ => rfl) ((Taken_ct hT (k : Nat)).mono ?_)
      rintro v L' ⟨rfl, rfl⟩
      rw [decide_eq_true (show 0 ≤ ((k : Nat) : Int) ∧ ((k : Nat) : Int) < T.length by omega), Bool.true_and, Int.toNat_natCast]
      cases ht : tkn T k
      · refine ⟨_, rfl, ?_⟩
        refine OS.pure rfl (fun _ => rfl) rfl ?_
        refine OS.skip rfl rfl ?_
        refine OS.skip rfl rfl ?_
        refine OS.skip rfl rfl ?_
        refine OS.skip rfl rfl ?_
        refine OS.pure rfl (fun _ => rfl) rfl ?_
        refine OS.nil ?_
        exact ⟨G, hno k G hJ ht, rfl, rfl⟩
      · obtain ⟨p, hp⟩ := hr k G hJ
        refine ⟨_, rfl, ?_⟩
        refine OS.pure rfl (fun _ => rfl) rfl ?_
        refine OS.pure rfl (fun _ => rfl) rfl ?_
        refine OS.pure rfl (fun _ => rfl) rfl ?_
        refine OS.yield rfl rfl rfl rfl rfl ⟨p, by simp [hp]⟩ (YS.sub (L' := G ++ [_, _, _]) (Sub.rot (X := [_, _, _])) ((hyes k G [_, _, _] hkl hJ ht).mono ?_))
        rintro v L' ⟨G', rfl, rfl, hJ'⟩
        refine ⟨_, rfl, ?_⟩
        refine OS.sub (Sub.rot (G := [_, _, _]) (X := G')) ?_
        refine OS.pure rfl (fun _ => rfl) rfl ?_
        refine OS.pure rfl (fun _ => rfl) rfl ?_
        refine OS.nil ?_
        exact ⟨G', hJ', rfl, rfl⟩
    rintro a L' ⟨G', hJ', rfl, rfl⟩
    refine LS.cond rfl (fun hc => by cases hc) (fun hc => ?_)
    refine LS.skip ?_
    repeat refine LS.seq ?_
    refine LS.region rfl ?_
    refine OS.pure rfl (e_add rfl rfl rfl (in_i64 (by omega) (by omega))) rfl ?_
    refine OS.pure rfl (fun _ => rfl) rfl ?_
    refine OS.nil ?_
    exact ⟨T.length - (k + 1), by omega, k + 1, G', rfl, by omega, hJ', rfl, rfl⟩
  · have hc := nlt_of hc
    have hkl : k = T.length := by omega
    subst hkl
    refine LS.exit ?_
    refine ⟨_, fun _ _ => rfl, G, hJ, rfl⟩

theorem List_ct {F : RL} {rm rb : Nat} {T : List Bool} (hT : T.length ≤ 32768) : CS Try.prog 18 [ptr rm] (fm rm rb T F) fun v L' => GV 3 1 (fm rm rb T F) v (lst' T).length (ints (lst' T)) L' := by
  refine CS.mk (fn := Try.f18) rfl rfl rfl rfl ?_
  repeat refine LS.seq ?_
  refine LS.region rfl ?_
  refine OS.pure rfl (fun _ => rfl) rfl ?_
  refine OS.nil ?_
  repeat refine LS.seq ?_
  refine LS.region rfl ?_
  refine OS.fresh rfl (e_new (fun _ => rfl) rfl) (fun _ => rfl) (fun rl => ?_)
  refine OS.nil ?_
  repeat refine LS.seq ?_
  refine LS.region rfl ?_
  refine OS.pure rfl (fun _ => rfl) rfl ?_
  refine OS.call noGo rfl (fun _ => rfl) ((taken_ct).mono ?_)
  rintro v L' ⟨rbx, rfl, rfl⟩
  refine ⟨_, rfl, ?_⟩
  refine OS.nil ?_
  repeat refine LS.seq ?_
  refine LS.block ?_
  refine LS.rangeFunc noGo rfl (fun r => ?_)
  generalize hp0 : LP.start _ _ _ _ = p0
  refine CS.sub (Sub.pulls [1, 4, 4] rfl) ((taken1_ct (G := (r, .loop p0) :: (rl, .cells 35 [.slice none 0 0]) :: F) hT (fun k G => ∃ lv Lx, G = (r, .loop p0) :: (rl, .cells 35 [lv]) :: Lx ∧ GV 3 1 F lv (lstTo T k).length (ints (lstTo T k)) Lx)
    (fun k G ⟨lv, Lx, hG, _⟩ => ⟨p0, by rw [hG]; simp⟩) ⟨.slice none 0 0, F, rfl, .nil⟩ (fun k G ⟨lv, Lx, hG, hg⟩ ht => ⟨lv, Lx, hG, by rw [lstTo_succ, ht]; exact hg⟩) ?_).mono ?_)
  · rintro k G X hk ⟨lv, Lx, rfl, hg⟩ ht
    have hl := lstTo_len T k
    have hgX := hg.appendR X
    subst hp0
    refine YS.mk 0 rfl rfl rfl ?_
    refine LS.region rfl ?_
    refine OS.pure rfl (fun _ => rfl) rfl ?_
    refine OS.nil ?_
    refine ⟨rfl, 0, _, rfl, rfl, ?_⟩
    repeat refine LS.seq ?_
    refine LS.block ?_
    repeat refine LS.seq ?_
    refine LS.region rfl ?_
    refine OS.read rfl (e_load 1 rfl rfl rfl rfl (part_one rfl rfl)) rfl ?_
    refine OS.pure rfl (fun _ => rfl) rfl ?_
    refine OS.fresh rfl (e_new (fun _ => rfl) rfl) (fun _ => rfl) (fun rn => ?_)
    refine OS.fresh rfl (e_appendGV [_, _, _] (m := 1) (sz := 1) (bts := 8) hgX (SV.row (sz := 1) (n := 1) (List.mem_cons_self ..) rfl) (by omega) rfl rfl rfl rfl (by omega) (by omega)) (fun _ => rfl) (fun r2 => ?_)
    refine OS.write rfl (e_store 3 (n := 1) (cs' := [.slice (some ⟨r2, 0, none⟩) ((lstTo T k).length + 1) openCap]) rfl rfl rfl rfl rfl rfl rfl rfl) rfl ?_
    refine OS.sub (Sub.drop 1 rfl) ?_
    refine OS.sub (Sub.pulls [2, 2] rfl) ?_
    refine OS.nil ?_
    refine ⟨0, _, rfl, rfl, (r, .loop _) :: (rl, .cells 35 [.slice (some ⟨r2, 0, none⟩) ((lstTo T k).length + 1) openCap]) :: (r2, .cells 3 (ints (lstTo T (k + 1)))) :: F, rfl, ?_, _, (r2, .cells 3 (ints (lstTo T (k + 1)))) :: F, rfl, ?_⟩
    · rw [lstTo_succ, ht, if_pos rfl, ints_snoc]; rfl
    · rw [lstTo_succ, ht, if_pos rfl, List.length_append]
      exact GV.of (by rw [ints_len]; simp)
  · rintro v L' ⟨G', ⟨lv, Lx, rfl, hg⟩, rfl⟩
    refine ⟨3, p0, _, rfl, rfl, by subst hp0; simp [LP.start], ?_⟩
    have hpend : p0.pending = none := by subst hp0; rfl
    rw [hpend]
    show LSr _ _ _ _ _ _
    repeat refine LS.seq ?_
    refine LS.region rfl ?_
    refine OS.read rfl (e_load 3 rfl rfl rfl rfl (part_one rfl rfl)) rfl ?_
    refine OS.pure rfl (fun _ => rfl) rfl ?_
    refine OS.sub (Sub.drop 2 rfl) ?_
    refine OS.sub (Sub.drop 2 rfl) ?_
    refine OS.nil ?_
    rcases hg with ⟨rfl, h0, h1, rfl⟩ | ⟨r2, rfl, hl, rfl⟩
    · refine LS.ret ⟨_, fun _ _ => rfl, ?_⟩
      exact .inl ⟨rfl, h0, h1, rfl⟩
    · refine LS.sub (Sub.pulls [2] rfl) ?_
      refine LS.ret ⟨_, fun _ _ => rfl, ?_⟩
      exact .inr ⟨r2, rfl, hl, rfl⟩
end Go.Proofs.Ytlifdkihjnnonaa

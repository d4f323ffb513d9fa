import Derived.Test.YtllcbjaajffaeaaGreatDoorWg
namespace Go.Proofs.YtllcbjaajffaeaaGreatDoor
open Go.Am
set_option linter.unusedVariables false
set_option maxRecDepth 20000
theorem blank_ct {L : RL} (c : UInt8) : CS Tryz.prog 72 [.int .u8 (c.toNat : Nat)] L fun v L' => v = .bool (isBl c) ∧ L' = L := by
  by_cases h1 : c = 32
  · subst h1
    refine CS.mk (fn := Tryz.f72) rfl rfl rfl rfl ?_
    repeat refine LS.seq ?_
    refine LS.region rfl ?_
    refine OS.pure rfl (fun _ => rfl) rfl ?_
    refine OS.nil ?_
    repeat refine LS.seq ?_
    refine LS.region rfl ?_
    refine OS.pure rfl (fun _ => rfl) rfl ?_
    refine OS.pure rfl (fun _ => rfl) rfl ?_
    refine OS.pure rfl (fun _ => rfl) rfl ?_
    refine OS.skip rfl rfl ?_
    refine OS.skip rfl rfl ?_
    refine OS.pure rfl (fun _ => rfl) rfl ?_
    refine OS.pure rfl (fun _ => rfl) rfl ?_
    refine OS.nil ?_
    refine LS.ret ⟨_, fun _ _ => rfl, ?_⟩
    exact ⟨rfl, rfl⟩
  · have b1 : ieqB (c.toNat : Int) 32 = false := by
      rw [ieqB_eq]; simp [← UInt8.toNat_inj] at h1 ⊢; omega
    have b2 : ieqB (c.toNat : Int) 9 = isBl c := by
      rw [ieqB_eq, isBl, show (c == 32) = false by simpa using h1, Bool.false_or, Bool.eq_iff_iff]
      simp [← UInt8.toNat_inj]; omega
    refine CS.mk (fn := Tryz.f72) rfl rfl rfl rfl ?_
    repeat refine LS.seq ?_
    refine LS.region rfl ?_
    refine OS.pure rfl (fun _ => rfl) rfl ?_
    refine OS.nil ?_
    repeat refine LS.seq ?_
    refine LS.region rfl ?_
    refine OS.pure rfl (fun _ => rfl) rfl ?_
    refine OS.pure rfl (e_is (fun _ => rfl) (congrArg Value.bool b1)) rfl ?_
    refine OS.pure rfl (fun _ => rfl) rfl ?_
    refine OS.pure rfl (fun _ => rfl) rfl ?_
    refine OS.pure rfl (e_is (fun _ => rfl) (congrArg Value.bool b2)) rfl ?_
    refine OS.pure rfl (fun _ => rfl) rfl ?_
    refine OS.pure rfl (fun _ => rfl) rfl ?_
    refine OS.nil ?_
    refine LS.ret ⟨_, fun _ _ => rfl, ?_⟩
    exact ⟨rfl, rfl⟩
def hexI (n : Nat) : Int := match hexN n with
  | some v => (v : Int)
  | none => -1
noncomputable def hexC1 (n : Nat) : Option Value := (callB Tryz.prog nothing 50 10 102 [.int .u8 (n : Int)] AW.empty).map (·.1)
noncomputable def hexOk (n : Nat) : Bool := match hexC1 n with
  | some (.int .i64 v) => v == hexI n
  | _ => false
theorem hexOk_all : (List.range 256).all hexOk = true := by kernel_rfl
theorem hex_ct {L : RL} (c : UInt8) : CS Tryz.prog 102 [.int .u8 (c.toNat : Nat)] L fun v L' => v = .int .i64 (hexI c.toNat) ∧ L' = L := by
  have h := List.all_eq_true.1 hexOk_all c.toNat (List.mem_range.2 c.toNat_lt)
  unfold hexOk at h
  split at h
  · rename_i v hv
    have : v = hexI c.toNat := by simpa using h
    subst this
    exact CS.closedQ noGo mixed (fuel := 50) (depth := 10) rfl (fun ρ u h => by cases h; rfl) (fun ρ => .int _ _) hv
  · cases h
def TR (t : List UInt8) (acc : List UInt8) (off : Nat) : Prop := tk markK t = (acc ++ (tk markK (t.drop off)).1, off + (tk markK (t.drop off)).2)
theorem TR.more {t acc : List UInt8} {off n : Nat} {c : UInt8} (h : TR t acc off) (hm : markK (t.drop off) = (c, n)) (hn : n ≠ 0) : TR t (acc ++ [c]) (off + n) := by
  unfold TR at h ⊢
  rw [h, tk_more mark_sane (s := t.drop off) (by rw [hm]; exact hn), hm, List.drop_drop]
  simp [Nat.add_assoc]
theorem TR.stop {t acc : List UInt8} {off : Nat} (h : TR t acc off) (hz : (markK (t.drop off)).2 = 0) : tk markK t = (acc, off) := by
  unfold TR at h
  rw [h, tk_stop hz]; simp
def quotV (s : List UInt8) (p : Nat) : Value :=
  if ((s.drop (p + 1)).drop (tk markK (s.drop (p + 1))).2).head? = some 34 then .tuple #[str (tk markK (s.drop (p + 1))).1, .int .i64 ((p + 2 + (tk markK (s.drop (p + 1))).2 : Nat) : Int), .bool true]
  else .tuple #[str [], .int .i64 0, .bool false]
theorem quot_bad {s acc : List UInt8} {p off : Nat} (h : TR (s.drop (p + 1)) acc off) (hz : (markK ((s.drop (p + 1)).drop off)).2 = 0) (hh : ((s.drop (p + 1)).drop off).head? ≠ some 34) : quotV s p = .tuple #[str [], .int .i64 0, .bool false] := by
  unfold quotV
  rw [h.stop hz, if_neg hh]
theorem quot_ok {s acc : List UInt8} {p off : Nat} (h : TR (s.drop (p + 1)) acc off) (hh : ((s.drop (p + 1)).drop off).head? = some 34) : quotV s p = .tuple #[str acc, .int .i64 ((p + 2 + off : Nat) : Int), .bool true] := by
  have hz : (markK ((s.drop (p + 1)).drop off)).2 = 0 := by
    cases hd : (s.drop (p + 1)).drop off with
    | nil => rfl
    | cons c u =>
      rw [hd] at hh
      simp at hh
      subst hh
      rfl
  unfold quotV
  rw [h.stop hz, if_pos hh]
theorem hexK_short {a b : UInt8} : ∀ {u : List UInt8}, u.length ≤ 1 → hexK (a :: b :: u) = (0, 0)
  | [], _ => rfl
  | [_], _ => rfl
  | _ :: _ :: _, h => by simp at h
theorem quoted_ct {L : RL} (s : List UInt8) (p : Nat) (hs : s.length ≤ 400) (hp : p < s.length) : CS Tryz.prog 73 [str s, .int .i64 (p : Nat)] L fun v L' => v = quotV s p ∧ L' = L := by
  suffices h : CS Tryz.prog 73 [str s, .int .i64 (p : Nat)] L fun v L' => v = quotV s p ∧ Sub L L' by
    exact h.less fun v L' ⟨h1, h2⟩ => ⟨L, h2, h1, rfl⟩
  refine CS.mk (fn := Tryz.f73) rfl rfl rfl rfl ?_
  repeat refine LS.seq ?_
  refine LS.region rfl ?_
  refine OS.pure rfl (fun _ => rfl) rfl ?_
  refine OS.pure rfl (fun _ => rfl) rfl ?_
  refine OS.pure rfl (fun _ => rfl) rfl ?_
  refine OS.nil ?_
  repeat refine LS.seq ?_
  refine LS.region rfl ?_
  refine OS.pure rfl (fun _ => rfl) rfl ?_
  refine OS.nil ?_
  repeat refine LS.seq ?_
  refine LS.region rfl ?_
  refine OS.pure rfl (fun _ => rfl) rfl ?_
  refine OS.pure rfl (e_add (m := (p : Int)) (n := 1) rfl rfl rfl (in_i64 (by omega) (by omega))) rfl ?_
  refine OS.pure rfl (fun _ => rfl) rfl ?_
  refine OS.nil ?_
  repeat refine LS.seq ?_
  refine LS.block ?_
  refine LS.loopJ [0, 7, 8] (fun q a L' => ∃ (acc : List UInt8) (off : Nat) (out : Value), q = s.length - (p + 1 + off) ∧ p + 1 + off ≤ s.length ∧ acc.length ≤ off ∧ TR (s.drop (p + 1)) acc off ∧ GV 5 1 L out acc.length (byteCells acc) L' ∧ a = [str s, .chan none, .chan none, .chan none, .chan none, .chan none, .chan none, out, .int .i64 ((p + 1 + off : Nat) : Int), .chan none, .chan none, .chan none, .chan none, .chan none, .chan none, .chan none, .chan none, .chan none, .chan none, .chan none, .chan none, .chan none, .chan none, .chan none, .chan none, .chan none, .chan none, .chan none, .chan none, .chan none, .chan none, .chan none, .chan none, .chan none, .chan none, .chan none, .chan none, .chan none, .chan none, .chan none, .chan none, .chan none, .chan none, .chan none, .chan none, .chan none, .chan none, .chan none, .chan none, .chan none, .chan none, .chan none, .chan none, .chan none, .chan none, .chan none, .chan none, .chan none, .chan none, .chan none, .chan none, .chan none, .chan none, .chan none, .chan none, .chan none, .chan none, .chan none, .chan none, .chan none, .chan none, .chan none, .chan none, .chan none, .chan none, .chan none, .chan none, .chan none, .chan none, .chan none, .chan none, .chan none, .chan none, .chan none, .chan none, .chan none, .chan none, .chan none, .chan none, .chan none, .chan none, .chan none, .chan none, .chan none, .chan none, .chan none, .chan none, .chan none, .chan none, .chan none, .chan none, .chan none, .chan none, .chan none, .chan none, .chan none, .chan none, .chan none, .chan none, .chan none, .chan none, .chan none, .chan none, .chan none]) (n := s.length - (p + 1)) rfl ⟨[], 0, _, rfl, by omega, by simp, by simp [TR], GV.nil, rfl⟩ ?_
  rintro q a L' ⟨acc, off, out, rfl, ho, ha, ht, hg, rfl⟩
  have hsub : Sub L L' := by
    rcases hg with ⟨_, _, _, rfl⟩ | ⟨r, _, _, rfl⟩
    · exact ⟨[], by simp⟩
    · exact Sub.tail
  have hdd : (s.drop (p + 1)).drop off = s.drop (p + 1 + off) := by rw [List.drop_drop]
  repeat refine LS.seq ?_
  refine LS.region rfl ?_
  refine OS.pure rfl (fun _ => rfl) rfl ?_
  refine OS.pure rfl (fun _ => rfl) rfl ?_
  refine OS.pure rfl (fun _ => rfl) rfl ?_
  refine OS.pure rfl (fun _ => rfl) rfl ?_
  refine OS.nil ?_
  repeat refine LS.seq ?_
  refine LS.cond rfl (fun hc => ?_) (fun hc => ?_)
  · have hc : ((p + 1 + off : Nat) : Int) < s.length := lt_of hc
    have hi : p + 1 + off < s.length := by omega
    have hcons : s.drop (p + 1 + off) = s[p + 1 + off] :: s.drop (p + 1 + off + 1) := List.drop_eq_getElem_cons hi
    have hget : s[p + 1 + off]? = some (s[p + 1 + off]'hi) := List.getElem?_eq_getElem hi
    generalize s[p + 1 + off] = c at hcons hget
    have more : ∀ (c' : UInt8) (n : Nat), markK (s.drop (p + 1 + off)) = (c', n) → n ≠ 0 → TR (s.drop (p + 1)) (acc ++ [c']) (off + n) ∧ n ≤ s.length - (p + 1 + off) := fun c' n h hn => by
      refine ⟨ht.more (by rw [hdd]; exact h) hn, ?_⟩
      have := mark_sane (s.drop (p + 1 + off))
      rw [h, List.length_drop] at this
      exact this
    have bad : (markK (s.drop (p + 1 + off))).2 = 0 → c ≠ 34 → quotV s p = .tuple #[str [], .int .i64 0, .bool false] := fun h1 h2 => quot_bad ht (by rw [hdd]; exact h1) (by rw [hdd, hcons]; simpa using h2)
    refine LS.skip ?_
    repeat refine LS.seq ?_
    refine LS.block ?_
    repeat refine LS.seq ?_
    refine LS.region rfl ?_
    refine OS.pure rfl (fun _ => rfl) rfl ?_
    refine OS.pure rfl (fun _ => rfl) rfl ?_
    refine OS.pure rfl (e_byte (s := s) (j := p + 1 + off) rfl rfl rfl rfl hget) rfl ?_
    refine OS.pure rfl (fun _ => rfl) rfl ?_
    refine OS.nil ?_
    repeat refine LS.seq ?_
    refine LS.block ?_
    repeat refine LS.seq ?_
    refine LS.region rfl ?_
    refine OS.pure rfl (fun _ => rfl) rfl ?_
    refine OS.pure rfl (fun _ => rfl) rfl ?_
    refine OS.pure rfl (fun _ => rfl) rfl ?_
    refine OS.nil ?_
    repeat refine LS.seq ?_
    refine LS.cond rfl (fun h1 => ?_) (fun h1 => ?_)
    · have h1 := is_u8 34 h1 rfl
      subst h1
      have hv := quot_ok ht (by rw [hdd, hcons]; rfl)
      repeat refine LS.seq ?_
      refine LS.region rfl ?_
      refine OS.pure rfl (fun _ => rfl) rfl ?_
      refine OS.read rfl (e_textSV (n := acc.length) (bs := acc) hg.sv rfl rfl rfl rfl rfl) rfl ?_
      refine OS.pure rfl (fun _ => rfl) rfl ?_
      refine OS.pure rfl (e_add (m := ((p + 1 + off : Nat) : Int)) (n := 1) rfl rfl rfl (in_i64 (by omega) (by omega))) rfl ?_
      refine OS.pure rfl (fun _ => rfl) rfl ?_
      refine OS.pure rfl (fun _ => rfl) rfl ?_
      refine OS.pure rfl (fun _ => rfl) rfl ?_
      refine OS.nil ?_
      refine LS.ret ⟨_, fun _ _ => rfl, ?_⟩
      refine ⟨?_, hsub⟩
      rw [hv, show (p + 2 + off : Nat) = (p + 1 + off) + 1 by omega]
      rfl
    have h1 := not_u8 34 h1 rfl
    repeat refine LS.seq ?_
    refine LS.region rfl ?_
    refine OS.pure rfl (fun _ => rfl) rfl ?_
    refine OS.pure rfl (fun _ => rfl) rfl ?_
    refine OS.pure rfl (fun _ => rfl) rfl ?_
    refine OS.nil ?_
    repeat refine LS.seq ?_
    refine LS.cond rfl (fun h2 => ?_) (fun h2 => ?_)
    · have h2 := is_u8 92 h2 rfl
      subst h2
      by_cases hlen : s.length ≤ p + 1 + off + 1
      · have hnil : s.drop (p + 1 + off + 1) = [] := List.drop_eq_nil_of_le hlen
        have hv := bad (by rw [hcons, hnil]; rfl) (by decide)
        have b1 : ileB (s.length : Int) (((p + 1 + off : Nat) : Int) + 1) = true := ileB_iff.2 (by omega)
        repeat refine LS.seq ?_
        refine LS.region rfl ?_
        refine OS.pure rfl (fun _ => rfl) rfl ?_
        refine OS.pure rfl (e_add (m := ((p + 1 + off : Nat) : Int)) (n := 1) rfl rfl rfl (in_i64 (by omega) (by omega))) rfl ?_
        refine OS.pure rfl (fun _ => rfl) rfl ?_
        refine OS.pure rfl (fun _ => rfl) rfl ?_
        refine OS.pure rfl (e_is (fun _ => rfl) (congrArg Value.bool b1)) rfl ?_
        refine OS.nil ?_
        repeat refine LS.seq ?_
        refine LS.cond rfl (fun h3 => ?_) (fun h3 => ?_)
        · repeat refine LS.seq ?_
          refine LS.region rfl ?_
          refine OS.pure rfl (fun _ => rfl) rfl ?_
          refine OS.pure rfl (fun _ => rfl) rfl ?_
          refine OS.pure rfl (fun _ => rfl) rfl ?_
          refine OS.nil ?_
          refine LS.ret ⟨_, fun _ _ => rfl, ?_⟩
          exact ⟨by rw [hv]; rfl, hsub⟩
        · cases h3
      have hi2 : p + 1 + off + 1 < s.length := by omega
      have hcons2 : s.drop (p + 1 + off + 1) = s[p + 1 + off + 1] :: s.drop (p + 1 + off + 1 + 1) := List.drop_eq_getElem_cons hi2
      have hget2 : s[p + 1 + off + 1]? = some (s[p + 1 + off + 1]'hi2) := List.getElem?_eq_getElem hi2
      generalize s[p + 1 + off + 1] = d at hcons2 hget2
      have b1 : ileB (s.length : Int) (((p + 1 + off : Nat) : Int) + 1) = false := by rw [ileB_eq]; simp; omega
      have hmk : markK (s.drop (p + 1 + off)) = escK (92 :: d :: s.drop (p + 1 + off + 1 + 1)) := by rw [hcons, hcons2]; simp [markK, isS]
      repeat refine LS.seq ?_
      refine LS.region rfl ?_
      refine OS.pure rfl (fun _ => rfl) rfl ?_
      refine OS.pure rfl (e_add (m := ((p + 1 + off : Nat) : Int)) (n := 1) rfl rfl rfl (in_i64 (by omega) (by omega))) rfl ?_
      refine OS.pure rfl (fun _ => rfl) rfl ?_
      refine OS.pure rfl (fun _ => rfl) rfl ?_
      refine OS.pure rfl (e_is (fun _ => rfl) (congrArg Value.bool b1)) rfl ?_
      refine OS.nil ?_
      repeat refine LS.seq ?_
      refine LS.cond rfl (fun h3 => ?_) (fun h3 => ?_)
      · cases h3
      refine LS.skip ?_
      repeat refine LS.seq ?_
      refine LS.region rfl ?_
      refine OS.pure rfl (fun _ => rfl) rfl ?_
      refine OS.pure rfl (fun _ => rfl) rfl ?_
      refine OS.pure rfl (e_add (m := ((p + 1 + off : Nat) : Int)) (n := 1) rfl rfl rfl (in_i64 (by omega) (by omega))) rfl ?_
      rw [show (((p + 1 + off : Nat) : Int) + 1) = ((p + 1 + off + 1 : Nat) : Int) by omega]
      refine OS.pure rfl (e_byte (s := s) (j := p + 1 + off + 1) rfl rfl rfl rfl hget2) rfl ?_
      refine OS.nil ?_
      repeat refine LS.seq ?_
      refine LS.block ?_
      repeat refine LS.seq ?_
      refine LS.region rfl ?_
      refine OS.pure rfl (fun _ => rfl) rfl ?_
      refine OS.pure rfl (fun _ => rfl) rfl ?_
      refine OS.nil ?_
      repeat refine LS.seq ?_
      refine LS.cond rfl (fun g1 => ?_) (fun g1 => ?_)
      · have g1 := is_u8 34 g1 rfl
        subst g1
        obtain ⟨hm, hle⟩ := more 34 2 (by rw [hmk]; simp [escK]) (by omega)
        refine LS.skip ?_
        repeat refine LS.seq ?_
        refine LS.cond rfl (fun h3 => ?_) (fun h3 => ?_)
        · repeat refine LS.seq ?_
          refine LS.region rfl ?_
          refine OS.pure rfl (fun _ => rfl) rfl ?_
          refine OS.pure rfl (fun _ => rfl) rfl ?_
          refine OS.pure rfl (fun _ => rfl) rfl ?_
          refine OS.pure rfl (e_add (m := ((p + 1 + off : Nat) : Int)) (n := 1) rfl rfl rfl (in_i64 (by omega) (by omega))) rfl ?_
          rw [show (((p + 1 + off : Nat) : Int) + 1) = ((p + 1 + off + 1 : Nat) : Int) by omega]
          refine OS.pure rfl (e_byte (s := s) (j := p + 1 + off + 1) rfl rfl rfl rfl hget2) rfl ?_
          refine OS.fresh rfl (e_new (fun _ => rfl) rfl) (fun _ => rfl) (fun r2 => ?_)
          refine OS.fresh rfl (e_appendGV [(r2, _)] (m := 1) (sz := 1) (bts := 1) hg (SV.row (sz := 1) (n := 1) (List.mem_cons_self ..) rfl) (by omega) rfl rfl rfl rfl (by omega) (by omega)) (fun _ => rfl) (fun r3 => ?_)
          refine OS.pure rfl (fun _ => rfl) rfl ?_
          refine OS.sub (Sub.drop 1 rfl) ?_
          refine OS.nil ?_
          repeat refine LS.seq ?_
          refine LS.region rfl ?_
          refine OS.pure rfl (fun _ => rfl) rfl ?_
          refine OS.pure rfl (e_add (m := ((p + 1 + off : Nat) : Int)) (n := 2) rfl rfl rfl (in_i64 (by omega) (by omega))) rfl ?_
          rw [show (((p + 1 + off : Nat) : Int) + 2) = ((p + 1 + (off + 2) : Nat) : Int) by omega]
          refine OS.pure rfl (fun _ => rfl) rfl ?_
          refine OS.nil ?_
          refine ⟨s.length - (p + 1 + (off + 2)), by omega, acc ++ [34], off + 2, _, rfl, by omega, by simp; omega, hm, ?_, rfl⟩
          rw [byteCells_append, List.length_append]; exact GV.of (by simp [byteCells])
        · cases h3
      have g1 := not_u8 34 g1 rfl
      repeat refine LS.seq ?_
      refine LS.region rfl ?_
      refine OS.pure rfl (fun _ => rfl) rfl ?_
      refine OS.pure rfl (fun _ => rfl) rfl ?_
      refine OS.nil ?_
      repeat refine LS.seq ?_
      refine LS.cond rfl (fun g2 => ?_) (fun g2 => ?_)
      · have g2 := is_u8 92 g2 rfl
        subst g2
        obtain ⟨hm, hle⟩ := more 92 2 (by rw [hmk]; simp [escK]) (by omega)
        repeat refine LS.seq ?_
        refine LS.region rfl ?_
        refine OS.pure rfl (fun _ => rfl) rfl ?_
        refine OS.pure rfl (fun _ => rfl) rfl ?_
        refine OS.pure rfl (fun _ => rfl) rfl ?_
        refine OS.pure rfl (e_add (m := ((p + 1 + off : Nat) : Int)) (n := 1) rfl rfl rfl (in_i64 (by omega) (by omega))) rfl ?_
        rw [show (((p + 1 + off : Nat) : Int) + 1) = ((p + 1 + off + 1 : Nat) : Int) by omega]
        refine OS.pure rfl (e_byte (s := s) (j := p + 1 + off + 1) rfl rfl rfl rfl hget2) rfl ?_
        refine OS.fresh rfl (e_new (fun _ => rfl) rfl) (fun _ => rfl) (fun r2 => ?_)
        refine OS.fresh rfl (e_appendGV [(r2, _)] (m := 1) (sz := 1) (bts := 1) hg (SV.row (sz := 1) (n := 1) (List.mem_cons_self ..) rfl) (by omega) rfl rfl rfl rfl (by omega) (by omega)) (fun _ => rfl) (fun r3 => ?_)
        refine OS.pure rfl (fun _ => rfl) rfl ?_
        refine OS.sub (Sub.drop 1 rfl) ?_
        refine OS.nil ?_
        repeat refine LS.seq ?_
        refine LS.region rfl ?_
        refine OS.pure rfl (fun _ => rfl) rfl ?_
        refine OS.pure rfl (e_add (m := ((p + 1 + off : Nat) : Int)) (n := 2) rfl rfl rfl (in_i64 (by omega) (by omega))) rfl ?_
        rw [show (((p + 1 + off : Nat) : Int) + 2) = ((p + 1 + (off + 2) : Nat) : Int) by omega]
        refine OS.pure rfl (fun _ => rfl) rfl ?_
        refine OS.nil ?_
        refine ⟨s.length - (p + 1 + (off + 2)), by omega, acc ++ [92], off + 2, _, rfl, by omega, by simp; omega, hm, ?_, rfl⟩
        rw [byteCells_append, List.length_append]; exact GV.of (by simp [byteCells])
      have g2 := not_u8 92 g2 rfl
      repeat refine LS.seq ?_
      refine LS.region rfl ?_
      refine OS.pure rfl (fun _ => rfl) rfl ?_
      refine OS.pure rfl (fun _ => rfl) rfl ?_
      refine OS.nil ?_
      repeat refine LS.seq ?_
      refine LS.cond rfl (fun g3 => ?_) (fun g3 => ?_)
      · have g3 := is_u8 110 g3 rfl
        subst g3
        obtain ⟨hm, hle⟩ := more 10 2 (by rw [hmk]; simp [escK]) (by omega)
        repeat refine LS.seq ?_
        refine LS.region rfl ?_
        refine OS.pure rfl (fun _ => rfl) rfl ?_
        refine OS.fresh rfl (e_new (fun _ => rfl) rfl) (fun _ => rfl) (fun r2 => ?_)
        refine OS.fresh rfl (e_appendGV [(r2, _)] (m := 1) (sz := 1) (bts := 1) hg (SV.row (sz := 1) (n := 1) (List.mem_cons_self ..) rfl) (by omega) rfl rfl rfl rfl (by omega) (by omega)) (fun _ => rfl) (fun r3 => ?_)
        refine OS.pure rfl (fun _ => rfl) rfl ?_
        refine OS.sub (Sub.drop 1 rfl) ?_
        refine OS.nil ?_
        repeat refine LS.seq ?_
        refine LS.region rfl ?_
        refine OS.pure rfl (fun _ => rfl) rfl ?_
        refine OS.pure rfl (e_add (m := ((p + 1 + off : Nat) : Int)) (n := 2) rfl rfl rfl (in_i64 (by omega) (by omega))) rfl ?_
        rw [show (((p + 1 + off : Nat) : Int) + 2) = ((p + 1 + (off + 2) : Nat) : Int) by omega]
        refine OS.pure rfl (fun _ => rfl) rfl ?_
        refine OS.nil ?_
        refine ⟨s.length - (p + 1 + (off + 2)), by omega, acc ++ [10], off + 2, _, rfl, by omega, by simp; omega, hm, ?_, rfl⟩
        rw [byteCells_append, List.length_append]; exact GV.of (by simp [byteCells])
      have g3 := not_u8 110 g3 rfl
      repeat refine LS.seq ?_
      refine LS.region rfl ?_
      refine OS.pure rfl (fun _ => rfl) rfl ?_
      refine OS.pure rfl (fun _ => rfl) rfl ?_
      refine OS.nil ?_
      repeat refine LS.seq ?_
      refine LS.cond rfl (fun g4 => ?_) (fun g4 => ?_)
      · have g4 := is_u8 116 g4 rfl
        subst g4
        obtain ⟨hm, hle⟩ := more 9 2 (by rw [hmk]; simp [escK]) (by omega)
        repeat refine LS.seq ?_
        refine LS.region rfl ?_
        refine OS.pure rfl (fun _ => rfl) rfl ?_
        refine OS.fresh rfl (e_new (fun _ => rfl) rfl) (fun _ => rfl) (fun r2 => ?_)
        refine OS.fresh rfl (e_appendGV [(r2, _)] (m := 1) (sz := 1) (bts := 1) hg (SV.row (sz := 1) (n := 1) (List.mem_cons_self ..) rfl) (by omega) rfl rfl rfl rfl (by omega) (by omega)) (fun _ => rfl) (fun r3 => ?_)
        refine OS.pure rfl (fun _ => rfl) rfl ?_
        refine OS.sub (Sub.drop 1 rfl) ?_
        refine OS.nil ?_
        repeat refine LS.seq ?_
        refine LS.region rfl ?_
        refine OS.pure rfl (fun _ => rfl) rfl ?_
        refine OS.pure rfl (e_add (m := ((p + 1 + off : Nat) : Int)) (n := 2) rfl rfl rfl (in_i64 (by omega) (by omega))) rfl ?_
        rw [show (((p + 1 + off : Nat) : Int) + 2) = ((p + 1 + (off + 2) : Nat) : Int) by omega]
        refine OS.pure rfl (fun _ => rfl) rfl ?_
        refine OS.nil ?_
        refine ⟨s.length - (p + 1 + (off + 2)), by omega, acc ++ [9], off + 2, _, rfl, by omega, by simp; omega, hm, ?_, rfl⟩
        rw [byteCells_append, List.length_append]; exact GV.of (by simp [byteCells])
      have g4 := not_u8 116 g4 rfl
      repeat refine LS.seq ?_
      refine LS.region rfl ?_
      refine OS.pure rfl (fun _ => rfl) rfl ?_
      refine OS.pure rfl (fun _ => rfl) rfl ?_
      refine OS.nil ?_
      repeat refine LS.seq ?_
      refine LS.cond rfl (fun g5 => ?_) (fun g5 => ?_)
      · have g5 := is_u8 120 g5 rfl
        subst g5
        by_cases h4 : s.length ≤ p + 1 + off + 3
        · have hv := bad (by rw [hmk]; show (escK (92 :: 120 :: _)).2 = 0; simp only [escK]; rw [show hexK (92 :: 120 :: s.drop (p + 1 + off + 1 + 1)) = (0, 0) from hexK_short (by rw [List.length_drop]; omega)]; rfl) (by decide)
          have b3 : ileB (s.length : Int) (((p + 1 + off : Nat) : Int) + 3) = true := ileB_iff.2 (by omega)
          repeat refine LS.seq ?_
          refine LS.region rfl ?_
          refine OS.pure rfl (fun _ => rfl) rfl ?_
          refine OS.pure rfl (e_add (m := ((p + 1 + off : Nat) : Int)) (n := 3) rfl rfl rfl (in_i64 (by omega) (by omega))) rfl ?_
          refine OS.pure rfl (fun _ => rfl) rfl ?_
          refine OS.pure rfl (fun _ => rfl) rfl ?_
          refine OS.pure rfl (e_is (fun _ => rfl) (congrArg Value.bool b3)) rfl ?_
          refine OS.pure rfl (fun _ => rfl) rfl ?_
          refine OS.skip rfl rfl ?_
          refine OS.skip rfl rfl ?_
          refine OS.skip rfl rfl ?_
          refine OS.skip rfl rfl ?_
          refine OS.skip rfl rfl ?_
          refine OS.skip rfl rfl ?_
          refine OS.pure rfl (fun _ => rfl) rfl ?_
          refine OS.pure rfl (fun _ => rfl) rfl ?_
          refine OS.skip rfl rfl ?_
          refine OS.skip rfl rfl ?_
          refine OS.skip rfl rfl ?_
          refine OS.skip rfl rfl ?_
          refine OS.skip rfl rfl ?_
          refine OS.skip rfl rfl ?_
          refine OS.pure rfl (fun _ => rfl) rfl ?_
          refine OS.nil ?_
          repeat refine LS.seq ?_
          refine LS.cond rfl (fun h5 => ?_) (fun h5 => ?_)
          · repeat refine LS.seq ?_
            refine LS.region rfl ?_
            refine OS.pure rfl (fun _ => rfl) rfl ?_
            refine OS.pure rfl (fun _ => rfl) rfl ?_
            refine OS.pure rfl (fun _ => rfl) rfl ?_
            refine OS.nil ?_
            refine LS.ret ⟨_, fun _ _ => rfl, ?_⟩
            exact ⟨by rw [hv]; rfl, hsub⟩
          · cases h5
        have hi3 : p + 1 + off + 2 < s.length := by omega
        have hi4 : p + 1 + off + 3 < s.length := by omega
        have hcons3 : s.drop (p + 1 + off + 1 + 1) = s[p + 1 + off + 2] :: s[p + 1 + off + 3] :: s.drop (p + 1 + off + 4) := by
          rw [List.drop_eq_getElem_cons hi3, List.drop_eq_getElem_cons hi4]
        have hget3 : s[p + 1 + off + 2]? = some (s[p + 1 + off + 2]'hi3) := List.getElem?_eq_getElem hi3
        have hget4 : s[p + 1 + off + 3]? = some (s[p + 1 + off + 3]'hi4) := List.getElem?_eq_getElem hi4
        generalize s[p + 1 + off + 2] = x at hcons3 hget3
        generalize s[p + 1 + off + 3] = y at hcons3 hget4
        rw [hcons3] at hmk
        have hmk2 : markK (s.drop (p + 1 + off)) = hexK (92 :: 120 :: x :: y :: s.drop (p + 1 + off + 4)) := by rw [hmk]; simp [escK]
        have b3 : ileB (s.length : Int) (((p + 1 + off : Nat) : Int) + 3) = false := by rw [ileB_eq]; simp; omega
        repeat refine LS.seq ?_
        refine LS.region rfl ?_
        refine OS.pure rfl (fun _ => rfl) rfl ?_
        refine OS.pure rfl (e_add (m := ((p + 1 + off : Nat) : Int)) (n := 3) rfl rfl rfl (in_i64 (by omega) (by omega))) rfl ?_
        refine OS.pure rfl (fun _ => rfl) rfl ?_
        refine OS.pure rfl (fun _ => rfl) rfl ?_
        refine OS.pure rfl (e_is (fun _ => rfl) (congrArg Value.bool b3)) rfl ?_
        refine OS.pure rfl (fun _ => rfl) rfl ?_
        refine OS.pure rfl (fun _ => rfl) rfl ?_
        refine OS.pure rfl (fun _ => rfl) rfl ?_
        refine OS.pure rfl (e_add (m := ((p + 1 + off : Nat) : Int)) (n := 2) rfl rfl rfl (in_i64 (by omega) (by omega))) rfl ?_
        rw [show (((p + 1 + off : Nat) : Int) + 2) = ((p + 1 + off + 2 : Nat) : Int) by omega]
        refine OS.pure rfl (e_byte (s := s) (j := p + 1 + off + 2) rfl rfl rfl rfl hget3) rfl ?_
        refine OS.call noGo rfl (fun _ => rfl) ((hex_ct x).mono ?_)
        rintro v L₁ ⟨rfl, rfl⟩
        cases hx : hexN x.toNat with
        | none =>
          have hI : hexI x.toNat = -1 := by unfold hexI; rw [hx]
          have hv := bad (by rw [hmk2]; simp [hexK, hx]) (by decide)
          rw [hI]
          refine ⟨_, rfl, ?_⟩
          refine OS.pure rfl (fun _ => rfl) rfl ?_
          refine OS.pure rfl (fun _ => rfl) rfl ?_
          refine OS.pure rfl (fun _ => rfl) rfl ?_
          refine OS.skip rfl rfl ?_
          refine OS.skip rfl rfl ?_
          refine OS.skip rfl rfl ?_
          refine OS.skip rfl rfl ?_
          refine OS.skip rfl rfl ?_
          refine OS.skip rfl rfl ?_
          refine OS.pure rfl (fun _ => rfl) rfl ?_
          refine OS.nil ?_
          repeat refine LS.seq ?_
          refine LS.cond rfl (fun h5 => ?_) (fun h5 => ?_)
          · repeat refine LS.seq ?_
            refine LS.region rfl ?_
            refine OS.pure rfl (fun _ => rfl) rfl ?_
            refine OS.pure rfl (fun _ => rfl) rfl ?_
            refine OS.pure rfl (fun _ => rfl) rfl ?_
            refine OS.nil ?_
            refine LS.ret ⟨_, fun _ _ => rfl, ?_⟩
            exact ⟨by rw [hv]; rfl, hsub⟩
          · cases h5
        | some hh =>
          have hI : hexI x.toNat = (hh : Nat) := by unfold hexI; rw [hx]
          have hlt := hexN_lt hx
          have b4 : (!ileB 0 ((hh : Nat) : Int)) = false := by rw [ileB_eq]; simp
          rw [hI]
          refine ⟨_, rfl, ?_⟩
          refine OS.pure rfl (e_is (fun _ => rfl) (congrArg Value.bool b4)) rfl ?_
          refine OS.pure rfl (fun _ => rfl) rfl ?_
          refine OS.pure rfl (fun _ => rfl) rfl ?_
          refine OS.pure rfl (fun _ => rfl) rfl ?_
          refine OS.pure rfl (fun _ => rfl) rfl ?_
          refine OS.pure rfl (e_add (m := ((p + 1 + off : Nat) : Int)) (n := 3) rfl rfl rfl (in_i64 (by omega) (by omega))) rfl ?_
          rw [show (((p + 1 + off : Nat) : Int) + 3) = ((p + 1 + off + 3 : Nat) : Int) by omega]
          refine OS.pure rfl (e_byte (s := s) (j := p + 1 + off + 3) rfl rfl rfl rfl hget4) rfl ?_
          refine OS.call noGo rfl (fun _ => rfl) ((hex_ct y).mono ?_)
          rintro v L₂ ⟨rfl, rfl⟩
          cases hy : hexN y.toNat with
          | none =>
            have hJ : hexI y.toNat = -1 := by unfold hexI; rw [hy]
            have hv := bad (by rw [hmk2]; simp [hexK, hx, hy]) (by decide)
            rw [hJ]
            refine ⟨_, rfl, ?_⟩
            refine OS.pure rfl (fun _ => rfl) rfl ?_
            refine OS.pure rfl (fun _ => rfl) rfl ?_
            refine OS.nil ?_
            repeat refine LS.seq ?_
            refine LS.cond rfl (fun h5 => ?_) (fun h5 => ?_)
            · repeat refine LS.seq ?_
              refine LS.region rfl ?_
              refine OS.pure rfl (fun _ => rfl) rfl ?_
              refine OS.pure rfl (fun _ => rfl) rfl ?_
              refine OS.pure rfl (fun _ => rfl) rfl ?_
              refine OS.nil ?_
              refine LS.ret ⟨_, fun _ _ => rfl, ?_⟩
              exact ⟨by rw [hv]; rfl, hsub⟩
            · cases h5
          | some ll =>
            have hJ : hexI y.toNat = (ll : Nat) := by unfold hexI; rw [hy]
            have hlt2 := hexN_lt hy
            have b5 : (!ileB 0 ((ll : Nat) : Int)) = false := by rw [ileB_eq]; simp
            have hb : (16 * ((hh : Nat) : Int) + ((ll : Nat) : Int)) = ((UInt8.ofNat (16 * hh + ll)).toNat : Nat) := by rw [UInt8.toNat_ofNat']; omega
            obtain ⟨hm, hle⟩ := more (UInt8.ofNat (16 * hh + ll)) 4 (by rw [hmk2]; simp [hexK, hx, hy]) (by omega)
            rw [hJ]
            refine ⟨_, rfl, ?_⟩
            refine OS.pure rfl (e_is (fun _ => rfl) (congrArg Value.bool b5)) rfl ?_
            refine OS.pure rfl (fun _ => rfl) rfl ?_
            refine OS.nil ?_
            repeat refine LS.seq ?_
            refine LS.cond rfl (fun h5 => ?_) (fun h5 => ?_)
            · cases h5
            refine LS.skip ?_
            repeat refine LS.seq ?_
            refine LS.drawn noGo mixed [(0, false), (1, false), (2, false), (3, false), (4, false), (5, false), (6, false), (7, false), (8, false), (9, false), (10, false), (11, false), (12, false), (13, false), (14, true), (15, true), (16, false)] rfl rfl (by kernel_rfl) ?_
            refine ODS.pure rfl rfl (fun _ => rfl) rfl ?_
            refine ODS.pure rfl rfl (fun _ => rfl) rfl ?_
            refine ODS.pure rfl rfl (fun _ => rfl) rfl ?_
            refine ODS.pure rfl rfl (e_add (m := ((p + 1 + off : Nat) : Int)) (n := 2) rfl rfl rfl (in_i64 (by omega) (by omega))) rfl ?_
            rw [show (((p + 1 + off : Nat) : Int) + 2) = ((p + 1 + off + 2 : Nat) : Int) by omega]
            refine ODS.pure rfl rfl (e_byte (s := s) (j := p + 1 + off + 2) rfl rfl rfl rfl hget3) rfl ?_
            refine ODS.still rfl rfl (fun _ => rfl) (CQ.still (R := fun v => v = .int .i64 ((hh : Nat) : Int)) ((hex_ct x).mono (fun v L' e => ⟨by rw [e.1, hI], by rw [e.1]; rfl⟩)) rfl) rfl ?_
            refine ODS.pure rfl rfl (e_mul (m := 16) (n := ((hh : Nat) : Int)) rfl rfl rfl (in_i64 (by omega) (by omega))) rfl ?_
            refine ODS.pure rfl rfl (fun _ => rfl) rfl ?_
            refine ODS.pure rfl rfl (fun _ => rfl) rfl ?_
            refine ODS.pure rfl rfl (e_add (m := ((p + 1 + off : Nat) : Int)) (n := 3) rfl rfl rfl (in_i64 (by omega) (by omega))) rfl ?_
            rw [show (((p + 1 + off : Nat) : Int) + 3) = ((p + 1 + off + 3 : Nat) : Int) by omega]
            refine ODS.pure rfl rfl (e_byte (s := s) (j := p + 1 + off + 3) rfl rfl rfl rfl hget4) rfl ?_
            refine ODS.still rfl rfl (fun _ => rfl) (CQ.still (R := fun v => v = .int .i64 ((ll : Nat) : Int)) ((hex_ct y).mono (fun v L' e => ⟨by rw [e.1, hJ], by rw [e.1]; rfl⟩)) rfl) rfl ?_
            refine ODS.pure rfl rfl (e_add (m := 16 * ((hh : Nat) : Int)) (n := ((ll : Nat) : Int)) rfl rfl rfl (in_i64 (by omega) (by omega))) rfl ?_
            refine ODS.pure rfl rfl (e_conv rfl rfl rfl rfl (in_u8 (by omega) (by omega))) rfl ?_
            rw [hb]
            refine ODS.fresh rfl rfl (e_new (fun _ => rfl) rfl) (fun _ => rfl) (fun _ => Keep.nil) (fun r2 => ?_)
            refine ODS.fresh rfl rfl (e_appendGV [(r2, _)] (m := 1) (sz := 1) (bts := 1) hg (SV.row (sz := 1) (n := 1) (List.mem_cons_self ..) rfl) (by omega) rfl rfl rfl rfl (by omega) (by omega)) (fun _ => rfl) (fun _ => Keep.nil) (fun r3 => ?_)
            refine ODS.pure rfl rfl (fun _ => rfl) rfl ?_
            refine ODS.nil ?_
            refine LS.sub (Sub.drop 1 rfl) ?_
            repeat refine LS.seq ?_
            refine LS.region rfl ?_
            refine OS.pure rfl (fun _ => rfl) rfl ?_
            refine OS.pure rfl (e_add (m := ((p + 1 + off : Nat) : Int)) (n := 2) rfl rfl rfl (in_i64 (by omega) (by omega))) rfl ?_
            rw [show (((p + 1 + off : Nat) : Int) + 2) = ((p + 1 + off + 2 : Nat) : Int) by omega]
            refine OS.pure rfl (fun _ => rfl) rfl ?_
            refine OS.nil ?_
            repeat refine LS.seq ?_
            refine LS.region rfl ?_
            refine OS.pure rfl (fun _ => rfl) rfl ?_
            refine OS.pure rfl (e_add (m := ((p + 1 + off + 2 : Nat) : Int)) (n := 2) rfl rfl rfl (in_i64 (by omega) (by omega))) rfl ?_
            rw [show (((p + 1 + off + 2 : Nat) : Int) + 2) = ((p + 1 + (off + 4) : Nat) : Int) by omega]
            refine OS.pure rfl (fun _ => rfl) rfl ?_
            refine OS.nil ?_
            refine ⟨s.length - (p + 1 + (off + 4)), by omega, acc ++ [UInt8.ofNat (16 * hh + ll)], off + 4, _, rfl, by omega, by simp; omega, hm, ?_, rfl⟩
            rw [byteCells_append, List.length_append]; exact GV.of (by simp [byteCells])
      have g5 := not_u8 120 g5 rfl
      have hv := bad (by rw [hmk]; simp [escK, g1, g2, g3, g4, g5]) (by decide)
      repeat refine LS.seq ?_
      refine LS.region rfl ?_
      refine OS.pure rfl (fun _ => rfl) rfl ?_
      refine OS.pure rfl (fun _ => rfl) rfl ?_
      refine OS.pure rfl (fun _ => rfl) rfl ?_
      refine OS.nil ?_
      refine LS.ret ⟨_, fun _ _ => rfl, ?_⟩
      exact ⟨by rw [hv]; rfl, hsub⟩
    have h2 := not_u8 92 h2 rfl
    by_cases hS : isS c = true
    · obtain ⟨hm, hle⟩ := more c 1 (by rw [hcons]; simp [markK, hS, h1, h2]) (by omega)
      have hS' := hS
      simp only [isS, Bool.and_eq_true, decide_eq_true_eq] at hS'
      have b1 : ileB 32 (c.toNat : Int) = true := ileB_iff.2 (by omega)
      have b2 : ileB (c.toNat : Int) 126 = true := ileB_iff.2 (by omega)
      repeat refine LS.seq ?_
      refine LS.region rfl ?_
      refine OS.pure rfl (fun _ => rfl) rfl ?_
      refine OS.pure rfl (e_is (fun _ => rfl) (congrArg Value.bool b1)) rfl ?_
      refine OS.pure rfl (fun _ => rfl) rfl ?_
      refine OS.pure rfl (fun _ => rfl) rfl ?_
      refine OS.pure rfl (e_is (fun _ => rfl) (congrArg Value.bool b2)) rfl ?_
      refine OS.pure rfl (fun _ => rfl) rfl ?_
      refine OS.pure rfl (fun _ => rfl) rfl ?_
      refine OS.nil ?_
      repeat refine LS.seq ?_
      refine LS.cond rfl (fun h3 => ?_) (fun h3 => ?_)
      · repeat refine LS.seq ?_
        refine LS.region rfl ?_
        refine OS.pure rfl (fun _ => rfl) rfl ?_
        refine OS.pure rfl (fun _ => rfl) rfl ?_
        refine OS.fresh rfl (e_new (fun _ => rfl) rfl) (fun _ => rfl) (fun r2 => ?_)
        refine OS.fresh rfl (e_appendGV [(r2, _)] (m := 1) (sz := 1) (bts := 1) hg (SV.row (sz := 1) (n := 1) (List.mem_cons_self ..) rfl) (by omega) rfl rfl rfl rfl (by omega) (by omega)) (fun _ => rfl) (fun r3 => ?_)
        refine OS.pure rfl (fun _ => rfl) rfl ?_
        refine OS.sub (Sub.drop 1 rfl) ?_
        refine OS.nil ?_
        repeat refine LS.seq ?_
        refine LS.region rfl ?_
        refine OS.pure rfl (fun _ => rfl) rfl ?_
        refine OS.pure rfl (e_add (m := ((p + 1 + off : Nat) : Int)) (n := 1) rfl rfl rfl (in_i64 (by omega) (by omega))) rfl ?_
        rw [show (((p + 1 + off : Nat) : Int) + 1) = ((p + 1 + (off + 1) : Nat) : Int) by omega]
        refine OS.pure rfl (fun _ => rfl) rfl ?_
        refine OS.nil ?_
        refine ⟨s.length - (p + 1 + (off + 1)), by omega, acc ++ [c], off + 1, _, rfl, by omega, by simp; omega, hm, ?_, rfl⟩
        rw [byteCells_append, List.length_append]; exact GV.of (by simp [byteCells])
      · cases h3
    · have hm0 : (markK (s.drop (p + 1 + off))).2 = 0 := by rw [hcons]; simp [markK, hS]
      have hv := bad hm0 h1
      by_cases h32 : 32 ≤ c.toNat
      · have h126 : ¬ c.toNat ≤ 126 := fun h => hS (by simp [isS, h32, h])
        have b1 : ileB 32 (c.toNat : Int) = true := ileB_iff.2 (by omega)
        have b2 : ileB (c.toNat : Int) 126 = false := by rw [ileB_eq]; simp; omega
        repeat refine LS.seq ?_
        refine LS.region rfl ?_
        refine OS.pure rfl (fun _ => rfl) rfl ?_
        refine OS.pure rfl (e_is (fun _ => rfl) (congrArg Value.bool b1)) rfl ?_
        refine OS.pure rfl (fun _ => rfl) rfl ?_
        refine OS.pure rfl (fun _ => rfl) rfl ?_
        refine OS.pure rfl (e_is (fun _ => rfl) (congrArg Value.bool b2)) rfl ?_
        refine OS.pure rfl (fun _ => rfl) rfl ?_
        refine OS.pure rfl (fun _ => rfl) rfl ?_
        refine OS.nil ?_
        repeat refine LS.seq ?_
        refine LS.cond rfl (fun h3 => ?_) (fun h3 => ?_)
        · cases h3
        · repeat refine LS.seq ?_
          refine LS.region rfl ?_
          refine OS.pure rfl (fun _ => rfl) rfl ?_
          refine OS.pure rfl (fun _ => rfl) rfl ?_
          refine OS.pure rfl (fun _ => rfl) rfl ?_
          refine OS.nil ?_
          refine LS.ret ⟨_, fun _ _ => rfl, ?_⟩
          exact ⟨by rw [hv]; rfl, hsub⟩
      · have b1 : ileB 32 (c.toNat : Int) = false := by rw [ileB_eq]; simp; omega
        repeat refine LS.seq ?_
        refine LS.region rfl ?_
        refine OS.pure rfl (fun _ => rfl) rfl ?_
        refine OS.pure rfl (e_is (fun _ => rfl) (congrArg Value.bool b1)) rfl ?_
        refine OS.pure rfl (fun _ => rfl) rfl ?_
        refine OS.skip rfl rfl ?_
        refine OS.skip rfl rfl ?_
        refine OS.pure rfl (fun _ => rfl) rfl ?_
        refine OS.pure rfl (fun _ => rfl) rfl ?_
        refine OS.nil ?_
        repeat refine LS.seq ?_
        refine LS.cond rfl (fun h3 => ?_) (fun h3 => ?_)
        · cases h3
        · repeat refine LS.seq ?_
          refine LS.region rfl ?_
          refine OS.pure rfl (fun _ => rfl) rfl ?_
          refine OS.pure rfl (fun _ => rfl) rfl ?_
          refine OS.pure rfl (fun _ => rfl) rfl ?_
          refine OS.nil ?_
          refine LS.ret ⟨_, fun _ _ => rfl, ?_⟩
          exact ⟨by rw [hv]; rfl, hsub⟩
  · have hc : (s.length : Int) ≤ ((p + 1 + off : Nat) : Int) := nlt_of hc
    have h0 : s.drop (p + 1 + off) = [] := List.drop_eq_nil_of_le (by omega)
    have hv := quot_bad ht (by rw [hdd, h0]; rfl) (by rw [hdd, h0]; simp)
    refine LS.exit ?_
    repeat refine LS.seq ?_
    refine LS.region rfl ?_
    refine OS.pure rfl (fun _ => rfl) rfl ?_
    refine OS.pure rfl (fun _ => rfl) rfl ?_
    refine OS.pure rfl (fun _ => rfl) rfl ?_
    refine OS.nil ?_
    refine LS.ret ⟨_, fun _ _ => rfl, ?_⟩
    exact ⟨by rw [hv]; rfl, hsub⟩
end Go.Proofs.YtllcbjaajffaeaaGreatDoor
namespace Go.Proofs.YtllcbjaajffaeaaGreatDoor
open Go.Am
set_option linter.unusedVariables false
set_option maxRecDepth 20000
def PR (t : List UInt8) (off : Nat) : Prop := off ≤ t.length ∧ tk plainK t = (t.take off ++ (tk plainK (t.drop off)).1, off + (tk plainK (t.drop off)).2)
theorem PR.more {t u : List UInt8} {off : Nat} {c : UInt8} (h : PR t off) (hd : t.drop off = c :: u) (hp : isP c = true) : PR t (off + 1) := by
  obtain ⟨h0, h⟩ := h
  have hlt : off < t.length := by
    rcases Nat.lt_or_ge off t.length with h' | h'
    · exact h'
    · rw [List.drop_eq_nil_of_le h'] at hd; cases hd
  have hk : plainK (t.drop off) = (c, 1) := by rw [hd]; simp [plainK, hp]
  refine ⟨by omega, ?_⟩
  rw [h, tk_more plain_sane (s := t.drop off) (by rw [hk]; simp), hk, List.drop_drop, List.take_add_one]
  have : t[off]? = some c := by
    have h1 : (t.drop off)[0]? = some c := by rw [hd]; rfl
    rwa [List.getElem?_drop, Nat.add_zero] at h1
  rw [this]
  simp [Nat.add_assoc]
theorem PR.stop {t : List UInt8} {off : Nat} (h : PR t off) (hz : (plainK (t.drop off)).2 = 0) : tk plainK t = (t.take off, off) := by
  rw [h.2, tk_stop hz]; simp
theorem ref_bad {c e : UInt8} {u v : List UInt8} {w : List UInt8} {n : Nat} (hc : c ≠ 35) (hw : wordK (c :: u) = (w, n)) (hd : (c :: u).drop n = e :: v) (he : isBl e = false) : spl (c :: u) = none :=
  spl_bad hc (by rw [hw]; simp only []; rw [hd]; exact ⟨by simp, dw_not he⟩)
theorem refSplit_ct {L : RL} (s : List UInt8) (hs : s.length ≤ 9000000000000000) : CS Tryz.prog 41 [str s] L fun v L' => SP s L v L' := by
  suffices h : CS Tryz.prog 41 [str s] L fun v L' => (s.length > 400 ∧ v = .tuple #[.slice none 0 0, .int .i64 40] ∧ L' = L) ∨
      (s.length ≤ 400 ∧ splitW s = none ∧ v = .tuple #[.slice none 0 0, .int .i64 4] ∧ Sub L L') ∨
      (s.length ≤ 400 ∧ ∃ ws u, splitW s = some ws ∧ v = .tuple #[u, .int .i64 0] ∧ GV 9 1 L u ws.length (strs ws) L') by
    refine h.less fun v L' h => ?_
    rcases h with ⟨h1, h2, rfl⟩ | ⟨h1, h2, h3, h4⟩ | h
    · exact ⟨_, ⟨[], by simp⟩, .inl ⟨h1, h2, rfl⟩⟩
    · exact ⟨L, h4, .inr (.inl ⟨h1, h2, h3, rfl⟩)⟩
    · exact ⟨L', ⟨[], by simp⟩, .inr (.inr h)⟩
  by_cases hl : s.length > 400
  · have b1 : (!ileB (s.length : Int) 400) = true := by rw [ileB_eq]; simp; omega
    refine CS.mk (fn := Tryz.f41) rfl rfl rfl rfl ?_
    repeat refine LS.seq ?_
    refine LS.region rfl ?_
    refine OS.pure rfl (fun _ => rfl) rfl ?_
    refine OS.pure rfl (fun _ => rfl) rfl ?_
    refine OS.nil ?_
    repeat refine LS.seq ?_
    refine LS.region rfl ?_
    refine OS.pure rfl (fun _ => rfl) rfl ?_
    refine OS.pure rfl (fun _ => rfl) rfl ?_
    refine OS.pure rfl (e_is (fun _ => rfl) (congrArg Value.bool b1)) rfl ?_
    refine OS.nil ?_
    repeat refine LS.seq ?_
    refine LS.cond rfl (fun hc => ?_) (fun hc => ?_)
    · repeat refine LS.seq ?_
      refine LS.region rfl ?_
      refine OS.pure rfl (fun _ => rfl) rfl ?_
      refine OS.pure rfl (fun _ => rfl) rfl ?_
      refine OS.nil ?_
      refine LS.ret ⟨_, fun _ _ => rfl, ?_⟩
      exact .inl ⟨hl, rfl, rfl⟩
    · cases hc
  have hl4 : s.length ≤ 400 := by omega
  have b1 : (!ileB (s.length : Int) 400) = false := by rw [ileB_eq]; simp; omega
  refine CS.mk (fn := Tryz.f41) rfl rfl rfl rfl ?_
  repeat refine LS.seq ?_
  refine LS.region rfl ?_
  refine OS.pure rfl (fun _ => rfl) rfl ?_
  refine OS.pure rfl (fun _ => rfl) rfl ?_
  refine OS.nil ?_
  repeat refine LS.seq ?_
  refine LS.region rfl ?_
  refine OS.pure rfl (fun _ => rfl) rfl ?_
  refine OS.pure rfl (fun _ => rfl) rfl ?_
  refine OS.pure rfl (e_is (fun _ => rfl) (congrArg Value.bool b1)) rfl ?_
  refine OS.nil ?_
  repeat refine LS.seq ?_
  refine LS.cond rfl (fun hc => ?_) (fun hc => ?_)
  · cases hc
  refine LS.skip ?_
  repeat refine LS.seq ?_
  refine LS.region rfl ?_
  refine OS.pure rfl (fun _ => rfl) rfl ?_
  refine OS.nil ?_
  repeat refine LS.seq ?_
  refine LS.region rfl ?_
  refine OS.pure rfl (fun _ => rfl) rfl ?_
  refine OS.nil ?_
  repeat refine LS.seq ?_
  refine LS.block ?_
  refine LS.loopJ [0, 4, 5] (fun q a L' => ∃ (ws : List (List UInt8)) (out : Value) (i : Nat), q = s.length - i ∧ i ≤ s.length ∧ ws.length ≤ i ∧ splitW s = (splitW (s.drop i)).map (ws ++ ·) ∧ GV 9 1 L out ws.length (strs ws) L' ∧ a = [str s, .chan none, .chan none, .chan none, out, .int .i64 (i : Nat), .chan none, .chan none, .chan none, .chan none, .chan none, .chan none, .chan none, .chan none, .chan none, .chan none, .chan none, .chan none, .chan none, .chan none, .chan none, .chan none, .chan none, .chan none, .chan none, .chan none, .chan none, .chan none, .chan none, .chan none, .chan none, .chan none, .chan none, .chan none, .chan none, .chan none, .chan none, .chan none, .chan none, .chan none, .chan none, .chan none, .chan none, .chan none, .chan none, .chan none, .chan none, .chan none, .chan none, .chan none, .chan none, .chan none, .chan none, .chan none, .chan none, .chan none, .chan none, .chan none, .chan none, .chan none, .chan none, .chan none, .chan none, .chan none, .chan none, .chan none, .chan none, .chan none, .chan none, .chan none, .chan none, .chan none, .chan none, .chan none, .chan none, .chan none, .chan none, .chan none, .chan none, .chan none, .chan none, .chan none, .chan none, .chan none, .chan none, .chan none, .chan none, .chan none, .chan none, .chan none, .chan none, .chan none, .chan none, .chan none, .chan none, .chan none, .chan none, .chan none, .chan none, .chan none, .chan none, .chan none, .chan none, .chan none, .chan none, .chan none, .chan none, .chan none, .chan none, .chan none, .chan none, .chan none, .chan none]) (n := s.length) rfl ⟨[], _, 0, rfl, by omega, by simp, by simp, GV.nil, rfl⟩ ?_
  rintro q a L' ⟨ws, out, i₀, rfl, hi₀, hw, hsp, hg, rfl⟩
  repeat refine LS.seq ?_
  refine LS.block ?_
  repeat refine LS.seq ?_
  refine LS.block ?_
  refine LS.loopJ [0, 4, 5] (fun q a L2 => ∃ (i : Nat), q = s.length - i ∧ i₀ ≤ i ∧ i ≤ s.length ∧ (s.drop i₀).dropWhile isBl = (s.drop i).dropWhile isBl ∧ L2 = L' ∧ a = [str s, .chan none, .chan none, .chan none, out, .int .i64 (i : Nat), .chan none, .chan none, .chan none, .chan none, .chan none, .chan none, .chan none, .chan none, .chan none, .chan none, .chan none, .chan none, .chan none, .chan none, .chan none, .chan none, .chan none, .chan none, .chan none, .chan none, .chan none, .chan none, .chan none, .chan none, .chan none, .chan none, .chan none, .chan none, .chan none, .chan none, .chan none, .chan none, .chan none, .chan none, .chan none, .chan none, .chan none, .chan none, .chan none, .chan none, .chan none, .chan none, .chan none, .chan none, .chan none, .chan none, .chan none, .chan none, .chan none, .chan none, .chan none, .chan none, .chan none, .chan none, .chan none, .chan none, .chan none, .chan none, .chan none, .chan none, .chan none, .chan none, .chan none, .chan none, .chan none, .chan none, .chan none, .chan none, .chan none, .chan none, .chan none, .chan none, .chan none, .chan none, .chan none, .chan none, .chan none, .chan none, .chan none, .chan none, .chan none, .chan none, .chan none, .chan none, .chan none, .chan none, .chan none, .chan none, .chan none, .chan none, .chan none, .chan none, .chan none, .chan none, .chan none, .chan none, .chan none, .chan none, .chan none, .chan none, .chan none, .chan none, .chan none, .chan none, .chan none, .chan none, .chan none]) (n := s.length - i₀) rfl ⟨i₀, rfl, by omega, by omega, rfl, rfl, rfl⟩ ?_
  rintro q a L2 ⟨i, rfl, h0i, hi, hdw, rfl, rfl⟩
  by_cases hlt : i < s.length
  · have hcons : s.drop i = s[i] :: s.drop (i + 1) := List.drop_eq_getElem_cons hlt
    have hget : s[i]? = some (s[i]'hlt) := List.getElem?_eq_getElem hlt
    generalize s[i] = c at hcons hget
    have bl : (!ileB (s.length : Int) (i : Nat)) = true := by rw [ileB_eq]; simp; omega
    repeat refine LS.seq ?_
    refine LS.region rfl ?_
    refine OS.pure rfl (fun _ => rfl) rfl ?_
    refine OS.pure rfl (fun _ => rfl) rfl ?_
    refine OS.pure rfl (fun _ => rfl) rfl ?_
    refine OS.pure rfl (e_is (fun _ => rfl) (congrArg Value.bool bl)) rfl ?_
    refine OS.pure rfl (fun _ => rfl) rfl ?_
    refine OS.pure rfl (fun _ => rfl) rfl ?_
    refine OS.pure rfl (fun _ => rfl) rfl ?_
    refine OS.pure rfl (e_byte (s := s) (j := i) rfl rfl rfl rfl hget) rfl ?_
    refine OS.call noGo rfl (fun _ => rfl) ((blank_ct c).mono ?_)
    rintro v L3 ⟨rfl, rfl⟩
    refine ⟨_, rfl, ?_⟩
    refine OS.pure rfl (fun _ => rfl) rfl ?_
    refine OS.nil ?_
    repeat refine LS.seq ?_
    refine LS.cond rfl (fun hb => ?_) (fun hb => ?_)
    · have hb : isBl c = true := hb
      refine LS.skip ?_
      repeat refine LS.seq ?_
      refine LS.block ?_
      repeat refine LS.seq ?_
      refine LS.region rfl ?_
      refine OS.pure rfl (fun _ => rfl) rfl ?_
      refine OS.pure rfl (e_add (m := (i : Int)) (n := 1) rfl rfl rfl (in_i64 (by omega) (by omega))) rfl ?_
      rw [show ((i : Nat) : Int) + 1 = ((i + 1 : Nat) : Int) by omega]
      refine OS.pure rfl (fun _ => rfl) rfl ?_
      refine OS.nil ?_
      exact ⟨s.length - (i + 1), by omega, i + 1, rfl, by omega, by omega, by rw [hdw, hcons]; simp [hb], rfl, rfl⟩
    have hb : isBl c = false := hb
    have hcur : splitW s = (spl (c :: s.drop (i + 1))).map (ws ++ ·) := by rw [hsp]; unfold splitW; rw [hdw, hcons, dw_not hb]
    have be : ieqB ((i : Nat) : Int) (s.length : Nat) = false := by rw [ieqB_eq]; simp; omega
    refine LS.exit ?_
    repeat refine LS.seq ?_
    refine LS.region rfl ?_
    refine OS.pure rfl (fun _ => rfl) rfl ?_
    refine OS.pure rfl (fun _ => rfl) rfl ?_
    refine OS.pure rfl (fun _ => rfl) rfl ?_
    refine OS.pure rfl (e_is (fun _ => rfl) (congrArg Value.bool be)) rfl ?_
    refine OS.nil ?_
    repeat refine LS.seq ?_
    refine LS.cond rfl (fun h => ?_) (fun h => ?_)
    · cases h
    refine LS.skip ?_
    repeat refine LS.seq ?_
    refine LS.region rfl ?_
    refine OS.pure rfl (fun _ => rfl) rfl ?_
    refine OS.pure rfl (fun _ => rfl) rfl ?_
    refine OS.pure rfl (e_byte (s := s) (j := i) rfl rfl rfl rfl hget) rfl ?_
    refine OS.pure rfl (fun _ => rfl) rfl ?_
    refine OS.nil ?_
    repeat refine LS.seq ?_
    refine LS.cond rfl (fun h35 => ?_) (fun h35 => ?_)
    · have h35 := is_u8 35 h35 rfl
      subst h35
      repeat refine LS.seq ?_
      refine LS.block ?_
      refine LS.loopJ [0, 4, 5] (fun q a L2 => ∃ (j : Nat), q = s.length - j ∧ j ≤ s.length ∧ (35 :: s.drop (i + 1)).contains 10 = (s.drop j).contains 10 ∧ L2 = L3 ∧ a = [str s, .chan none, .chan none, .chan none, out, .int .i64 (j : Nat), .chan none, .chan none, .chan none, .chan none, .chan none, .chan none, .chan none, .chan none, .chan none, .chan none, .chan none, .chan none, .chan none, .chan none, .chan none, .chan none, .chan none, .chan none, .chan none, .chan none, .chan none, .chan none, .chan none, .chan none, .chan none, .chan none, .chan none, .chan none, .chan none, .chan none, .chan none, .chan none, .chan none, .chan none, .chan none, .chan none, .chan none, .chan none, .chan none, .chan none, .chan none, .chan none, .chan none, .chan none, .chan none, .chan none, .chan none, .chan none, .chan none, .chan none, .chan none, .chan none, .chan none, .chan none, .chan none, .chan none, .chan none, .chan none, .chan none, .chan none, .chan none, .chan none, .chan none, .chan none, .chan none, .chan none, .chan none, .chan none, .chan none, .chan none, .chan none, .chan none, .chan none, .chan none, .chan none, .chan none, .chan none, .chan none, .chan none, .chan none, .chan none, .chan none, .chan none, .chan none, .chan none, .chan none, .chan none, .chan none, .chan none, .chan none, .chan none, .chan none, .chan none, .chan none, .chan none, .chan none, .chan none, .chan none, .chan none, .chan none, .chan none, .chan none, .chan none, .chan none, .chan none, .chan none, .chan none]) (n := s.length - i) rfl ⟨i, rfl, by omega, by rw [hcons], rfl, rfl⟩ ?_
      rintro q a L4 ⟨j, rfl, hj, hct, rfl, rfl⟩
      repeat refine LS.seq ?_
      refine LS.region rfl ?_
      refine OS.pure rfl (fun _ => rfl) rfl ?_
      refine OS.pure rfl (fun _ => rfl) rfl ?_
      refine OS.pure rfl (fun _ => rfl) rfl ?_
      refine OS.pure rfl (fun _ => rfl) rfl ?_
      refine OS.nil ?_
      repeat refine LS.seq ?_
      refine LS.cond rfl (fun h => ?_) (fun h => ?_)
      · have h : ((j : Nat) : Int) < s.length := lt_of h
        have hjl : j < s.length := by omega
        have hc2 : s.drop j = s[j] :: s.drop (j + 1) := List.drop_eq_getElem_cons hjl
        have hg2 : s[j]? = some (s[j]'hjl) := List.getElem?_eq_getElem hjl
        generalize s[j] = e at hc2 hg2
        refine LS.skip ?_
        repeat refine LS.seq ?_
        refine LS.block ?_
        repeat refine LS.seq ?_
        refine LS.region rfl ?_
        refine OS.pure rfl (fun _ => rfl) rfl ?_
        refine OS.pure rfl (fun _ => rfl) rfl ?_
        refine OS.pure rfl (e_byte (s := s) (j := j) rfl rfl rfl rfl hg2) rfl ?_
        refine OS.pure rfl (fun _ => rfl) rfl ?_
        refine OS.nil ?_
        repeat refine LS.seq ?_
        refine LS.cond rfl (fun h10 => ?_) (fun h10 => ?_)
        · have h10 := is_u8 10 h10 rfl
          subst h10
          repeat refine LS.seq ?_
          refine LS.region rfl ?_
          refine OS.pure rfl (fun _ => rfl) rfl ?_
          refine OS.pure rfl (fun _ => rfl) rfl ?_
          refine OS.nil ?_
          refine LS.ret ⟨_, fun _ _ => rfl, ?_⟩
          exact .inr (.inl ⟨hl4, by rw [hcur, spl_hash, hct, hc2]; simp, rfl, GV.less hg⟩)
        have h10 := not_u8 10 h10 rfl
        have h10' : ((10 : UInt8) == e) = false := by simpa using fun h => h10 h.symm
        refine LS.skip ?_
        repeat refine LS.seq ?_
        refine LS.region rfl ?_
        refine OS.pure rfl (fun _ => rfl) rfl ?_
        refine OS.pure rfl (e_add (m := (j : Int)) (n := 1) rfl rfl rfl (in_i64 (by omega) (by omega))) rfl ?_
        rw [show ((j : Nat) : Int) + 1 = ((j + 1 : Nat) : Int) by omega]
        refine OS.pure rfl (fun _ => rfl) rfl ?_
        refine OS.nil ?_
        exact ⟨s.length - (j + 1), by omega, j + 1, rfl, by omega, by rw [hct, hc2, List.contains_cons, h10', Bool.false_or], rfl, rfl⟩
      · have h : (s.length : Int) ≤ ((j : Nat) : Int) := nlt_of h
        have hjl : j = s.length := by omega
        subst hjl
        refine LS.exit ?_
        repeat refine LS.seq ?_
        refine LS.region rfl ?_
        refine OS.pure rfl (fun _ => rfl) rfl ?_
        refine OS.pure rfl (fun _ => rfl) rfl ?_
        refine OS.pure rfl (fun _ => rfl) rfl ?_
        refine OS.nil ?_
        refine LS.ret ⟨_, fun _ _ => rfl, ?_⟩
        exact .inr (.inr ⟨hl4, ws, out, by rw [hcur, spl_hash, hct, List.drop_length]; simp, rfl, hg⟩)
    have h35 := not_u8 35 h35 rfl
    refine LS.skip ?_
    repeat refine LS.seq ?_
    refine LS.region rfl ?_
    refine OS.pure rfl (fun _ => rfl) rfl ?_
    refine OS.pure rfl (fun _ => rfl) rfl ?_
    refine OS.pure rfl (e_byte (s := s) (j := i) rfl rfl rfl rfl hget) rfl ?_
    refine OS.pure rfl (fun _ => rfl) rfl ?_
    refine OS.nil ?_
    repeat refine LS.seq ?_
    refine LS.cond rfl (fun h34 => ?_) (fun h34 => ?_)
    · have h34 := is_u8 34 h34 rfl
      subst h34
      repeat refine LS.seq ?_
      refine LS.region rfl ?_
      refine OS.pure rfl (fun _ => rfl) rfl ?_
      refine OS.pure rfl (fun _ => rfl) rfl ?_
      refine OS.call noGo rfl (fun _ => rfl) ((quoted_ct s i hl4 hlt).mono ?_)
      rintro v L5 ⟨rfl, rfl⟩
      by_cases hq : ((s.drop (i + 1)).drop (tk markK (s.drop (i + 1))).2).head? = some 34
      · have hv : quotV s i = .tuple #[str (tk markK (s.drop (i + 1))).1, .int .i64 ((i + 2 + (tk markK (s.drop (i + 1))).2 : Nat) : Int), .bool true] := if_pos hq
        have hw : wordK (34 :: s.drop (i + 1)) = ((tk markK (s.drop (i + 1))).1, (tk markK (s.drop (i + 1))).2 + 2) := by simp only [wordK, if_true, if_pos hq]
        have hlt2 : (tk markK (s.drop (i + 1))).2 < (s.drop (i + 1)).length := by
          rcases Nat.lt_or_ge (tk markK (s.drop (i + 1))).2 (s.drop (i + 1)).length with h' | h'
          · exact h'
          · rw [List.drop_eq_nil_of_le h'] at hq; cases hq
        rw [List.length_drop] at hlt2
        have hdto : (34 :: s.drop (i + 1)).drop ((tk markK (s.drop (i + 1))).2 + 2) = s.drop (i + 2 + (tk markK (s.drop (i + 1))).2) := by
          rw [show (tk markK (s.drop (i + 1))).2 + 2 = ((tk markK (s.drop (i + 1))).2 + 1) + 1 by omega, List.drop_succ_cons, List.drop_drop]
          congr 1; omega
        rw [hv]
        refine ⟨_, rfl, ?_⟩
        refine OS.pure rfl (fun _ => rfl) rfl ?_
        refine OS.pure rfl (fun _ => rfl) rfl ?_
        refine OS.pure rfl (fun _ => rfl) rfl ?_
        refine OS.pure rfl (fun _ => rfl) rfl ?_
        refine OS.pure rfl (fun _ => rfl) rfl ?_
        refine OS.pure rfl (fun _ => rfl) rfl ?_
        refine OS.pure rfl (fun _ => rfl) rfl ?_
        refine OS.nil ?_
        by_cases h2 : i + 2 + (tk markK (s.drop (i + 1))).2 < s.length
        · have hc3 : s.drop (i + 2 + (tk markK (s.drop (i + 1))).2) = s[i + 2 + (tk markK (s.drop (i + 1))).2] :: s.drop (i + 2 + (tk markK (s.drop (i + 1))).2 + 1) := List.drop_eq_getElem_cons h2
          have hg3 : s[i + 2 + (tk markK (s.drop (i + 1))).2]? = some (s[i + 2 + (tk markK (s.drop (i + 1))).2]'h2) := List.getElem?_eq_getElem h2
          generalize s[i + 2 + (tk markK (s.drop (i + 1))).2] = e at hc3 hg3
          have bt : (!ileB (s.length : Int) ((i + 2 + (tk markK (s.drop (i + 1))).2 : Nat) : Int)) = true := by rw [ileB_eq]; simp; omega
          repeat refine LS.seq ?_
          refine LS.region rfl ?_
          refine OS.pure rfl (fun _ => rfl) rfl ?_
          refine OS.pure rfl (fun _ => rfl) rfl ?_
          refine OS.pure rfl (fun _ => rfl) rfl ?_
          refine OS.pure rfl (fun _ => rfl) rfl ?_
          refine OS.pure rfl (fun _ => rfl) rfl ?_
          refine OS.pure rfl (fun _ => rfl) rfl ?_
          refine OS.pure rfl (e_is (fun _ => rfl) (congrArg Value.bool bt)) rfl ?_
          refine OS.pure rfl (fun _ => rfl) rfl ?_
          refine OS.pure rfl (fun _ => rfl) rfl ?_
          refine OS.pure rfl (fun _ => rfl) rfl ?_
          refine OS.pure rfl (e_byte (s := s) (j := i + 2 + (tk markK (s.drop (i + 1))).2) rfl rfl rfl rfl hg3) rfl ?_
          refine OS.call noGo rfl (fun _ => rfl) ((blank_ct e).mono ?_)
          rintro v L6 ⟨rfl, rfl⟩
          refine ⟨_, rfl, ?_⟩
          refine OS.pure rfl (fun _ => rfl) rfl ?_
          refine OS.pure rfl (fun _ => rfl) rfl ?_
          refine OS.pure rfl (fun _ => rfl) rfl ?_
          refine OS.nil ?_
          repeat refine LS.seq ?_
          refine LS.cond rfl (fun hbe => ?_) (fun hbe => ?_)
          · have hbe : isBl e = false := by simpa using hbe
            repeat refine LS.seq ?_
            refine LS.region rfl ?_
            refine OS.pure rfl (fun _ => rfl) rfl ?_
            refine OS.pure rfl (fun _ => rfl) rfl ?_
            refine OS.nil ?_
            refine LS.ret ⟨_, fun _ _ => rfl, ?_⟩
            exact .inr (.inl ⟨hl4, by rw [hcur, ref_bad h35 hw (by rw [hdto]; exact hc3) hbe]; rfl, rfl, GV.less hg⟩)
          have hbe : isBl e = true := by simpa using hbe
          refine LS.skip ?_
          repeat refine LS.seq ?_
          refine LS.region rfl ?_
          refine OS.pure rfl (fun _ => rfl) rfl ?_
          refine OS.pure rfl (fun _ => rfl) rfl ?_
          refine OS.fresh rfl (e_new (fun _ => rfl) rfl) (fun _ => rfl) (fun r2 => ?_)
          refine OS.fresh rfl (e_appendGV [(r2, _)] (m := 1) (sz := 1) (bts := 16) hg (SV.row (sz := 1) (n := 1) (List.mem_cons_self ..) rfl) (by omega) rfl rfl rfl rfl (by omega) (by omega)) (fun _ => rfl) (fun r3 => ?_)
          refine OS.pure rfl (fun _ => rfl) rfl ?_
          refine OS.sub (Sub.drop 1 rfl) ?_
          refine OS.nil ?_
          repeat refine LS.seq ?_
          refine LS.region rfl ?_
          refine OS.pure rfl (fun _ => rfl) rfl ?_
          refine OS.pure rfl (fun _ => rfl) rfl ?_
          refine OS.nil ?_
          refine LS.exit ?_
          refine ⟨s.length - (i + 2 + (tk markK (s.drop (i + 1))).2), by omega, ws ++ [(tk markK (s.drop (i + 1))).1], _, i + 2 + (tk markK (s.drop (i + 1))).2, rfl, by omega, by simp; omega, ?_, ?_, rfl⟩
          · rw [hcur, ref_more h35 hw (by rw [hdto]; exact .inr ⟨e, _, hc3, hbe⟩), hdto]
            simp [Function.comp_def]
          · rw [strs_snoc, List.length_append]; exact GV.of (by simp [strs])
        · have bt : (!ileB (s.length : Int) ((i + 2 + (tk markK (s.drop (i + 1))).2 : Nat) : Int)) = false := by rw [ileB_eq]; simp; omega
          repeat refine LS.seq ?_
          refine LS.region rfl ?_
          refine OS.pure rfl (fun _ => rfl) rfl ?_
          refine OS.pure rfl (fun _ => rfl) rfl ?_
          refine OS.pure rfl (fun _ => rfl) rfl ?_
          refine OS.pure rfl (fun _ => rfl) rfl ?_
          refine OS.pure rfl (fun _ => rfl) rfl ?_
          refine OS.pure rfl (fun _ => rfl) rfl ?_
          refine OS.pure rfl (e_is (fun _ => rfl) (congrArg Value.bool bt)) rfl ?_
          refine OS.pure rfl (fun _ => rfl) rfl ?_
          refine OS.skip rfl rfl ?_
          refine OS.skip rfl rfl ?_
          refine OS.skip rfl rfl ?_
          refine OS.skip rfl rfl ?_
          refine OS.skip rfl rfl ?_
          refine OS.pure rfl (fun _ => rfl) rfl ?_
          refine OS.pure rfl (fun _ => rfl) rfl ?_
          refine OS.nil ?_
          repeat refine LS.seq ?_
          refine LS.cond rfl (fun hbe => ?_) (fun hbe => ?_)
          · cases hbe
          refine LS.skip ?_
          repeat refine LS.seq ?_
          refine LS.region rfl ?_
          refine OS.pure rfl (fun _ => rfl) rfl ?_
          refine OS.pure rfl (fun _ => rfl) rfl ?_
          refine OS.fresh rfl (e_new (fun _ => rfl) rfl) (fun _ => rfl) (fun r2 => ?_)
          refine OS.fresh rfl (e_appendGV [(r2, _)] (m := 1) (sz := 1) (bts := 16) hg (SV.row (sz := 1) (n := 1) (List.mem_cons_self ..) rfl) (by omega) rfl rfl rfl rfl (by omega) (by omega)) (fun _ => rfl) (fun r3 => ?_)
          refine OS.pure rfl (fun _ => rfl) rfl ?_
          refine OS.sub (Sub.drop 1 rfl) ?_
          refine OS.nil ?_
          repeat refine LS.seq ?_
          refine LS.region rfl ?_
          refine OS.pure rfl (fun _ => rfl) rfl ?_
          refine OS.pure rfl (fun _ => rfl) rfl ?_
          refine OS.nil ?_
          refine LS.exit ?_
          refine ⟨s.length - (i + 2 + (tk markK (s.drop (i + 1))).2), by omega, ws ++ [(tk markK (s.drop (i + 1))).1], _, i + 2 + (tk markK (s.drop (i + 1))).2, rfl, by omega, by simp; omega, ?_, ?_, rfl⟩
          · rw [hcur, ref_more h35 hw (by rw [hdto]; exact .inl (List.drop_eq_nil_of_le (by omega))), hdto]
            simp [Function.comp_def]
          · rw [strs_snoc, List.length_append]; exact GV.of (by simp [strs])
      · have hv : quotV s i = .tuple #[str [], .int .i64 0, .bool false] := if_neg hq
        have hw : wordK (34 :: s.drop (i + 1)) = ([], 0) := by simp only [wordK, if_true, if_neg hq]
        rw [hv]
        refine ⟨_, rfl, ?_⟩
        refine OS.pure rfl (fun _ => rfl) rfl ?_
        refine OS.pure rfl (fun _ => rfl) rfl ?_
        refine OS.pure rfl (fun _ => rfl) rfl ?_
        refine OS.pure rfl (fun _ => rfl) rfl ?_
        refine OS.pure rfl (fun _ => rfl) rfl ?_
        refine OS.pure rfl (fun _ => rfl) rfl ?_
        refine OS.pure rfl (fun _ => rfl) rfl ?_
        refine OS.nil ?_
        repeat refine LS.seq ?_
        refine LS.region rfl ?_
        refine OS.pure rfl (fun _ => rfl) rfl ?_
        refine OS.pure rfl (fun _ => rfl) rfl ?_
        refine OS.pure rfl (fun _ => rfl) rfl ?_
        refine OS.skip rfl rfl ?_
        refine OS.skip rfl rfl ?_
        refine OS.skip rfl rfl ?_
        refine OS.skip rfl rfl ?_
        refine OS.skip rfl rfl ?_
        refine OS.skip rfl rfl ?_
        refine OS.skip rfl rfl ?_
        refine OS.skip rfl rfl ?_
        refine OS.skip rfl rfl ?_
        refine OS.skip rfl rfl ?_
        refine OS.skip rfl rfl ?_
        refine OS.pure rfl (fun _ => rfl) rfl ?_
        refine OS.nil ?_
        repeat refine LS.seq ?_
        refine LS.cond rfl (fun hbe => ?_) (fun hbe => ?_)
        · repeat refine LS.seq ?_
          refine LS.region rfl ?_
          refine OS.pure rfl (fun _ => rfl) rfl ?_
          refine OS.pure rfl (fun _ => rfl) rfl ?_
          refine OS.nil ?_
          refine LS.ret ⟨_, fun _ _ => rfl, ?_⟩
          exact .inr (.inl ⟨hl4, by rw [hcur, ref_bad h35 hw rfl (by decide)]; rfl, rfl, GV.less hg⟩)
        · cases hbe
    have h34 := not_u8 34 h34 rfl
    refine LS.skip ?_
    repeat refine LS.seq ?_
    refine LS.region rfl ?_
    refine OS.pure rfl (fun _ => rfl) rfl ?_
    refine OS.pure rfl (fun _ => rfl) rfl ?_
    refine OS.nil ?_
    repeat refine LS.seq ?_
    refine LS.block ?_
    refine LS.loopJ [0, 4, 5, 9] (fun q a L2 => ∃ (off : Nat), q = s.length - (i + off) ∧ i + off ≤ s.length ∧ PR (s.drop i) off ∧ L2 = L3 ∧ a = [str s, .chan none, .chan none, .chan none, out, .int .i64 ((i + off : Nat) : Int), .chan none, .chan none, .chan none, .int .i64 (i : Nat), .chan none, .chan none, .chan none, .chan none, .chan none, .chan none, .chan none, .chan none, .chan none, .chan none, .chan none, .chan none, .chan none, .chan none, .chan none, .chan none, .chan none, .chan none, .chan none, .chan none, .chan none, .chan none, .chan none, .chan none, .chan none, .chan none, .chan none, .chan none, .chan none, .chan none, .chan none, .chan none, .chan none, .chan none, .chan none, .chan none, .chan none, .chan none, .chan none, .chan none, .chan none, .chan none, .chan none, .chan none, .chan none, .chan none, .chan none, .chan none, .chan none, .chan none, .chan none, .chan none, .chan none, .chan none, .chan none, .chan none, .chan none, .chan none, .chan none, .chan none, .chan none, .chan none, .chan none, .chan none, .chan none, .chan none, .chan none, .chan none, .chan none, .chan none, .chan none, .chan none, .chan none, .chan none, .chan none, .chan none, .chan none, .chan none, .chan none, .chan none, .chan none, .chan none, .chan none, .chan none, .chan none, .chan none, .chan none, .chan none, .chan none, .chan none, .chan none, .chan none, .chan none, .chan none, .chan none, .chan none, .chan none, .chan none, .chan none, .chan none, .chan none, .chan none, .chan none]) (n := s.length - i) rfl ⟨0, rfl, by omega, ⟨by omega, by simp⟩, rfl, rfl⟩ ?_
    rintro q a L4 ⟨off, rfl, ho, hpr, rfl, rfl⟩
    have hdd : (s.drop i).drop off = s.drop (i + off) := by rw [List.drop_drop]
    have hdc : (c :: s.drop (i + 1)).drop off = s.drop (i + off) := by rw [← hcons, hdd]
    have stop : (plainK (s.drop (i + off))).2 = 0 → wordK (c :: s.drop (i + 1)) = ((s.drop i).take off, off) := fun h => by
      have h1 := hpr.stop (by rw [hdd]; exact h)
      rw [hcons] at h1
      simp only [wordK, if_neg h34]
      rw [h1, hcons]
    by_cases h2 : i + off < s.length
    · have hc3 : s.drop (i + off) = s[i + off] :: s.drop (i + off + 1) := List.drop_eq_getElem_cons h2
      have hg3 : s[i + off]? = some (s[i + off]'h2) := List.getElem?_eq_getElem h2
      generalize s[i + off] = e at hc3 hg3
      have bt : (!ileB (s.length : Int) ((i + off : Nat) : Int)) = true := by rw [ileB_eq]; simp; omega
      repeat refine LS.seq ?_
      refine LS.region rfl ?_
      refine OS.pure rfl (fun _ => rfl) rfl ?_
      refine OS.pure rfl (fun _ => rfl) rfl ?_
      refine OS.pure rfl (fun _ => rfl) rfl ?_
      refine OS.pure rfl (e_is (fun _ => rfl) (congrArg Value.bool bt)) rfl ?_
      refine OS.pure rfl (fun _ => rfl) rfl ?_
      refine OS.pure rfl (fun _ => rfl) rfl ?_
      refine OS.pure rfl (fun _ => rfl) rfl ?_
      refine OS.pure rfl (e_byte (s := s) (j := i + off) rfl rfl rfl rfl hg3) rfl ?_
      refine OS.call noGo rfl (fun _ => rfl) ((blank_ct e).mono ?_)
      rintro v L6 ⟨rfl, rfl⟩
      refine ⟨_, rfl, ?_⟩
      refine OS.pure rfl (fun _ => rfl) rfl ?_
      refine OS.pure rfl (fun _ => rfl) rfl ?_
      refine OS.nil ?_
      repeat refine LS.seq ?_
      refine LS.cond rfl (fun hbe => ?_) (fun hbe => ?_)
      · have hbe : isBl e = false := by simpa using hbe
        refine LS.skip ?_
        repeat refine LS.seq ?_
        refine LS.block ?_
        by_cases hP : isP e = true
        · have hP' := hP
          simp only [isP, Bool.and_eq_true, decide_eq_true_eq, Bool.not_eq_true', beq_eq_false_iff_ne] at hP'
          obtain ⟨⟨p1, p2⟩, p3⟩ := hP'
          have c1 : (!ileB 33 (e.toNat : Int)) = false := by rw [ileB_eq]; simp; omega
          have c2 : (!ileB (e.toNat : Int) 126) = false := by rw [ileB_eq]; simp; omega
          have c3 : ieqB (e.toNat : Int) 34 = false := by
            rw [ieqB_eq]; simp [← UInt8.toNat_inj] at p3 ⊢; omega
          repeat refine LS.seq ?_
          refine LS.region rfl ?_
          refine OS.pure rfl (fun _ => rfl) rfl ?_
          refine OS.pure rfl (fun _ => rfl) rfl ?_
          refine OS.pure rfl (e_byte (s := s) (j := i + off) rfl rfl rfl rfl hg3) rfl ?_
          refine OS.pure rfl (e_is (fun _ => rfl) (congrArg Value.bool c1)) rfl ?_
          refine OS.pure rfl (fun _ => rfl) rfl ?_
          refine OS.pure rfl (fun _ => rfl) rfl ?_
          refine OS.pure rfl (fun _ => rfl) rfl ?_
          refine OS.pure rfl (e_byte (s := s) (j := i + off) rfl rfl rfl rfl hg3) rfl ?_
          refine OS.pure rfl (e_is (fun _ => rfl) (congrArg Value.bool c2)) rfl ?_
          refine OS.pure rfl (fun _ => rfl) rfl ?_
          refine OS.pure rfl (fun _ => rfl) rfl ?_
          refine OS.pure rfl (fun _ => rfl) rfl ?_
          refine OS.pure rfl (fun _ => rfl) rfl ?_
          refine OS.pure rfl (e_byte (s := s) (j := i + off) rfl rfl rfl rfl hg3) rfl ?_
          refine OS.pure rfl (e_is (fun _ => rfl) (congrArg Value.bool c3)) rfl ?_
          refine OS.pure rfl (fun _ => rfl) rfl ?_
          refine OS.nil ?_
          repeat refine LS.seq ?_
          refine LS.cond rfl (fun h => ?_) (fun h => ?_)
          · cases h
          refine LS.skip ?_
          repeat refine LS.seq ?_
          refine LS.region rfl ?_
          refine OS.pure rfl (fun _ => rfl) rfl ?_
          refine OS.pure rfl (e_add (m := ((i + off : Nat) : Int)) (n := 1) rfl rfl rfl (in_i64 (by omega) (by omega))) rfl ?_
          rw [show ((i + off : Nat) : Int) + 1 = ((i + (off + 1) : Nat) : Int) by omega]
          refine OS.pure rfl (fun _ => rfl) rfl ?_
          refine OS.nil ?_
          exact ⟨s.length - (i + (off + 1)), by omega, off + 1, rfl, by omega, hpr.more (by rw [hdd]; exact hc3) hP, rfl, rfl⟩
        · have hw := stop (by rw [hc3]; simp [plainK, hP])
          have hnone : splitW s = none := by rw [hcur, ref_bad h35 hw (by rw [hdc]; exact hc3) hbe]; rfl
          by_cases p1 : 32 < e.toNat
          · have c1 : (!ileB 33 (e.toNat : Int)) = false := by rw [ileB_eq]; simp; omega
            by_cases p2 : e.toNat ≤ 126
            · have p3 : e = 34 := by
                by_cases h : e = 34
                · exact h
                · exfalso; exact hP (by simp [isP, p1, p2, h])
              have c2 : (!ileB (e.toNat : Int) 126) = false := by rw [ileB_eq]; simp; omega
              have c3 : ieqB (e.toNat : Int) 34 = true := by rw [p3]; rfl
              repeat refine LS.seq ?_
              refine LS.region rfl ?_
              refine OS.pure rfl (fun _ => rfl) rfl ?_
              refine OS.pure rfl (fun _ => rfl) rfl ?_
              refine OS.pure rfl (e_byte (s := s) (j := i + off) rfl rfl rfl rfl hg3) rfl ?_
              refine OS.pure rfl (e_is (fun _ => rfl) (congrArg Value.bool c1)) rfl ?_
              refine OS.pure rfl (fun _ => rfl) rfl ?_
              refine OS.pure rfl (fun _ => rfl) rfl ?_
              refine OS.pure rfl (fun _ => rfl) rfl ?_
              refine OS.pure rfl (e_byte (s := s) (j := i + off) rfl rfl rfl rfl hg3) rfl ?_
              refine OS.pure rfl (e_is (fun _ => rfl) (congrArg Value.bool c2)) rfl ?_
              refine OS.pure rfl (fun _ => rfl) rfl ?_
              refine OS.pure rfl (fun _ => rfl) rfl ?_
              refine OS.pure rfl (fun _ => rfl) rfl ?_
              refine OS.pure rfl (fun _ => rfl) rfl ?_
              refine OS.pure rfl (e_byte (s := s) (j := i + off) rfl rfl rfl rfl hg3) rfl ?_
              refine OS.pure rfl (e_is (fun _ => rfl) (congrArg Value.bool c3)) rfl ?_
              refine OS.pure rfl (fun _ => rfl) rfl ?_
              refine OS.nil ?_
              repeat refine LS.seq ?_
              refine LS.cond rfl (fun h => ?_) (fun h => ?_)
              · repeat refine LS.seq ?_
                refine LS.region rfl ?_
                refine OS.pure rfl (fun _ => rfl) rfl ?_
                refine OS.pure rfl (fun _ => rfl) rfl ?_
                refine OS.nil ?_
                refine LS.ret ⟨_, fun _ _ => rfl, ?_⟩
                exact .inr (.inl ⟨hl4, hnone, rfl, GV.less hg⟩)
              · cases h
            · have c2 : (!ileB (e.toNat : Int) 126) = true := by rw [ileB_eq]; simp; omega
              repeat refine LS.seq ?_
              refine LS.region rfl ?_
              refine OS.pure rfl (fun _ => rfl) rfl ?_
              refine OS.pure rfl (fun _ => rfl) rfl ?_
              refine OS.pure rfl (e_byte (s := s) (j := i + off) rfl rfl rfl rfl hg3) rfl ?_
              refine OS.pure rfl (e_is (fun _ => rfl) (congrArg Value.bool c1)) rfl ?_
              refine OS.pure rfl (fun _ => rfl) rfl ?_
              refine OS.pure rfl (fun _ => rfl) rfl ?_
              refine OS.pure rfl (fun _ => rfl) rfl ?_
              refine OS.pure rfl (e_byte (s := s) (j := i + off) rfl rfl rfl rfl hg3) rfl ?_
              refine OS.pure rfl (e_is (fun _ => rfl) (congrArg Value.bool c2)) rfl ?_
              refine OS.pure rfl (fun _ => rfl) rfl ?_
              refine OS.pure rfl (fun _ => rfl) rfl ?_
              refine OS.skip rfl rfl ?_
              refine OS.skip rfl rfl ?_
              refine OS.skip rfl rfl ?_
              refine OS.skip rfl rfl ?_
              refine OS.pure rfl (fun _ => rfl) rfl ?_
              refine OS.nil ?_
              repeat refine LS.seq ?_
              refine LS.cond rfl (fun h => ?_) (fun h => ?_)
              · repeat refine LS.seq ?_
                refine LS.region rfl ?_
                refine OS.pure rfl (fun _ => rfl) rfl ?_
                refine OS.pure rfl (fun _ => rfl) rfl ?_
                refine OS.nil ?_
                refine LS.ret ⟨_, fun _ _ => rfl, ?_⟩
                exact .inr (.inl ⟨hl4, hnone, rfl, GV.less hg⟩)
              · cases h
          · have c1 : (!ileB 33 (e.toNat : Int)) = true := by rw [ileB_eq]; simp; omega
            repeat refine LS.seq ?_
            refine LS.region rfl ?_
            refine OS.pure rfl (fun _ => rfl) rfl ?_
            refine OS.pure rfl (fun _ => rfl) rfl ?_
            refine OS.pure rfl (e_byte (s := s) (j := i + off) rfl rfl rfl rfl hg3) rfl ?_
            refine OS.pure rfl (e_is (fun _ => rfl) (congrArg Value.bool c1)) rfl ?_
            refine OS.pure rfl (fun _ => rfl) rfl ?_
            refine OS.skip rfl rfl ?_
            refine OS.skip rfl rfl ?_
            refine OS.skip rfl rfl ?_
            refine OS.skip rfl rfl ?_
            refine OS.pure rfl (fun _ => rfl) rfl ?_
            refine OS.pure rfl (fun _ => rfl) rfl ?_
            refine OS.skip rfl rfl ?_
            refine OS.skip rfl rfl ?_
            refine OS.skip rfl rfl ?_
            refine OS.skip rfl rfl ?_
            refine OS.pure rfl (fun _ => rfl) rfl ?_
            refine OS.nil ?_
            repeat refine LS.seq ?_
            refine LS.cond rfl (fun h => ?_) (fun h => ?_)
            · repeat refine LS.seq ?_
              refine LS.region rfl ?_
              refine OS.pure rfl (fun _ => rfl) rfl ?_
              refine OS.pure rfl (fun _ => rfl) rfl ?_
              refine OS.nil ?_
              refine LS.ret ⟨_, fun _ _ => rfl, ?_⟩
              exact .inr (.inl ⟨hl4, hnone, rfl, GV.less hg⟩)
            · cases h
      · have hbe : isBl e = true := by simpa using hbe
        have hw := stop (by rw [hc3]; simp [plainK, blank_not hbe])
        have hoff : 0 < off := by
          rcases Nat.eq_zero_or_pos off with h | h
          · subst h
            rw [Nat.add_zero, hcons] at hc3
            simp at hc3
            rw [hc3] at hb; rw [hb] at hbe; cases hbe
          · exact h
        refine LS.exit ?_
        repeat refine LS.seq ?_
        refine LS.region rfl ?_
        refine OS.pure rfl (fun _ => rfl) rfl ?_
        refine OS.pure rfl (fun _ => rfl) rfl ?_
        refine OS.pure rfl (fun _ => rfl) rfl ?_
        refine OS.pure rfl (fun _ => rfl) rfl ?_
        refine OS.pure rfl (e_part (s := s) (l := i) (u := i + off) rfl rfl rfl rfl (bound_nat (d := 0)) (bound_nat (d := s.length)) rfl (by omega) (by omega)) rfl ?_
        rw [show i + off - i = off by omega]
        refine OS.fresh rfl (e_new (fun _ => rfl) rfl) (fun _ => rfl) (fun r2 => ?_)
        refine OS.fresh rfl (e_appendGV [(r2, _)] (m := 1) (sz := 1) (bts := 16) hg (SV.row (sz := 1) (n := 1) (List.mem_cons_self ..) rfl) (by omega) rfl rfl rfl rfl (by omega) (by omega)) (fun _ => rfl) (fun r3 => ?_)
        refine OS.pure rfl (fun _ => rfl) rfl ?_
        refine OS.sub (Sub.drop 1 rfl) ?_
        refine OS.nil ?_
        refine ⟨s.length - (i + off), by omega, ws ++ [(s.drop i).take off], _, i + off, rfl, by omega, by simp; omega, ?_, ?_, rfl⟩
        · rw [hcur, ref_more h35 hw (by rw [hdc]; exact .inr ⟨e, _, hc3, hbe⟩), hdc]
          simp [Function.comp_def]
        · rw [strs_snoc, List.length_append]; exact GV.of (by simp [strs])
    · have h0 : s.drop (i + off) = [] := List.drop_eq_nil_of_le (by omega)
      have hw := stop (by rw [h0]; rfl)
      have bt : (!ileB (s.length : Int) ((i + off : Nat) : Int)) = false := by rw [ileB_eq]; simp; omega
      repeat refine LS.seq ?_
      refine LS.region rfl ?_
      refine OS.pure rfl (fun _ => rfl) rfl ?_
      refine OS.pure rfl (fun _ => rfl) rfl ?_
      refine OS.pure rfl (fun _ => rfl) rfl ?_
      refine OS.pure rfl (e_is (fun _ => rfl) (congrArg Value.bool bt)) rfl ?_
      refine OS.pure rfl (fun _ => rfl) rfl ?_
      refine OS.skip rfl rfl ?_
      refine OS.skip rfl rfl ?_
      refine OS.skip rfl rfl ?_
      refine OS.skip rfl rfl ?_
      refine OS.skip rfl rfl ?_
      refine OS.pure rfl (fun _ => rfl) rfl ?_
      refine OS.nil ?_
      repeat refine LS.seq ?_
      refine LS.cond rfl (fun h => ?_) (fun h => ?_)
      · cases h
      refine LS.exit ?_
      repeat refine LS.seq ?_
      refine LS.region rfl ?_
      refine OS.pure rfl (fun _ => rfl) rfl ?_
      refine OS.pure rfl (fun _ => rfl) rfl ?_
      refine OS.pure rfl (fun _ => rfl) rfl ?_
      refine OS.pure rfl (fun _ => rfl) rfl ?_
      refine OS.pure rfl (e_part (s := s) (l := i) (u := i + off) rfl rfl rfl rfl (bound_nat (d := 0)) (bound_nat (d := s.length)) rfl (by omega) (by omega)) rfl ?_
      rw [show i + off - i = off by omega]
      refine OS.fresh rfl (e_new (fun _ => rfl) rfl) (fun _ => rfl) (fun r2 => ?_)
      refine OS.fresh rfl (e_appendGV [(r2, _)] (m := 1) (sz := 1) (bts := 16) hg (SV.row (sz := 1) (n := 1) (List.mem_cons_self ..) rfl) (by omega) rfl rfl rfl rfl (by omega) (by omega)) (fun _ => rfl) (fun r3 => ?_)
      refine OS.pure rfl (fun _ => rfl) rfl ?_
      refine OS.sub (Sub.drop 1 rfl) ?_
      refine OS.nil ?_
      refine ⟨s.length - (i + off), by omega, ws ++ [(s.drop i).take off], _, i + off, rfl, by omega, by simp; omega, ?_, ?_, rfl⟩
      · rw [hcur, ref_more h35 hw (by rw [hdc]; exact .inl h0), hdc]
        simp [Function.comp_def]
      · rw [strs_snoc, List.length_append]; exact GV.of (by simp [strs])
  · have hii : i = s.length := by omega
    subst hii
    have bl : (!ileB (s.length : Int) (s.length : Nat)) = false := by rw [ileB_eq]; simp
    have be : ieqB ((s.length : Nat) : Int) (s.length : Nat) = true := by rw [ieqB_eq]; simp
    have hcur : splitW s = some ws := by rw [hsp]; unfold splitW; rw [hdw, List.drop_length]; simp [spl, splF]
    repeat refine LS.seq ?_
    refine LS.region rfl ?_
    refine OS.pure rfl (fun _ => rfl) rfl ?_
    refine OS.pure rfl (fun _ => rfl) rfl ?_
    refine OS.pure rfl (fun _ => rfl) rfl ?_
    refine OS.pure rfl (e_is (fun _ => rfl) (congrArg Value.bool bl)) rfl ?_
    refine OS.pure rfl (fun _ => rfl) rfl ?_
    refine OS.skip rfl rfl ?_
    refine OS.skip rfl rfl ?_
    refine OS.skip rfl rfl ?_
    refine OS.skip rfl rfl ?_
    refine OS.pure rfl (fun _ => rfl) rfl ?_
    refine OS.nil ?_
    repeat refine LS.seq ?_
    refine LS.cond rfl (fun h => ?_) (fun h => ?_)
    · cases h
    refine LS.exit ?_
    repeat refine LS.seq ?_
    refine LS.region rfl ?_
    refine OS.pure rfl (fun _ => rfl) rfl ?_
    refine OS.pure rfl (fun _ => rfl) rfl ?_
    refine OS.pure rfl (fun _ => rfl) rfl ?_
    refine OS.pure rfl (e_is (fun _ => rfl) (congrArg Value.bool be)) rfl ?_
    refine OS.nil ?_
    repeat refine LS.seq ?_
    refine LS.cond rfl (fun h => ?_) (fun h => ?_)
    · repeat refine LS.seq ?_
      refine LS.region rfl ?_
      refine OS.pure rfl (fun _ => rfl) rfl ?_
      refine OS.pure rfl (fun _ => rfl) rfl ?_
      refine OS.pure rfl (fun _ => rfl) rfl ?_
      refine OS.nil ?_
      refine LS.ret ⟨_, fun _ _ => rfl, ?_⟩
      exact .inr (.inr ⟨hl4, ws, out, hcur, rfl, hg⟩)
    · cases h
end Go.Proofs.YtllcbjaajffaeaaGreatDoor

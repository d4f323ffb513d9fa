/- Layer 2: the document's quoted word. -/
import Derived.Test.YtfmgoagkjjmefaaGreatDoorWg
namespace Go.Proofs.YtfmgoagkjjmefaaGreatDoor
open Go.Am
set_option linter.unusedVariables false
set_option maxRecDepth 20000

theorem blank_ct {L : RL} (c : UInt8) : CS Tryz.prog 45 [.int .u8 (c.toNat : Nat)] L fun v L' => v = .bool (isBl c) ∧ L' = L := by
  by_cases h1 : c = 32
  · subst h1
    refine CS.mk (fn := Tryz.f45) rfl rfl rfl rfl ?_
    repeat refine LS.seq ?_
    refine LS.region rfl ?_
    refine OS.pure rfl (fun _ => rfl) rfl ?_
    refine OS.nil ?_
    repeat refine LS.seq ?_
    refine LS.region rfl ?_
    refine OS.pure rfl (fun _ => rfl) rfl ?_
    refine OS.pure rfl (fun _ => rfl) rfl ?_
    refine OS.pure rfl (fun _ => rfl) rfl ?_
    refine OS.skip rfl rfl ?_
    refine OS.skip rfl rfl ?_
    refine OS.pure rfl (fun _ => rfl) rfl ?_
    refine OS.pure rfl (fun _ => rfl) rfl ?_
    refine OS.nil ?_
    refine LS.ret ⟨_, fun _ _ => rfl, ?_⟩
    exact ⟨rfl, rfl⟩
  · have b1 : ieqB (c.toNat : Int) 32 = false := by
      rw [ieqB_eq]; simp [← UInt8.toNat_inj] at h1 ⊢; omega
    have b2 : ieqB (c.toNat : Int) 9 = isBl c := by
      rw [ieqB_eq, isBl, show (c == 32) = false by simpa using h1, Bool.false_or, Bool.eq_iff_iff]
      simp [← UInt8.toNat_inj]; omega
    refine CS.mk (fn := Tryz.f45) rfl rfl rfl rfl ?_
    repeat refine LS.seq ?_
    refine LS.region rfl ?_
    refine OS.pure rfl (fun _ => rfl) rfl ?_
    refine OS.nil ?_
    repeat refine LS.seq ?_
    refine LS.region rfl ?_
    refine OS.pure rfl (fun _ => rfl) rfl ?_
    refine OS.pure rfl (e_is (fun _ => rfl) (congrArg Value.bool b1)) rfl ?_
    refine OS.pure rfl (fun _ => rfl) rfl ?_
    refine OS.pure rfl (fun _ => rfl) rfl ?_
    refine OS.pure rfl (e_is (fun _ => rfl) (congrArg Value.bool b2)) rfl ?_
    refine OS.pure rfl (fun _ => rfl) rfl ?_
    refine OS.pure rfl (fun _ => rfl) rfl ?_
    refine OS.nil ?_
    refine LS.ret ⟨_, fun _ _ => rfl, ?_⟩
    exact ⟨rfl, rfl⟩
def hexI (n : Nat) : Int := match hexN n with
  | some v => (v : Int)
  | none => -1
noncomputable def hexC1 (n : Nat) : Option Value := (callB Tryz.prog nothing 50 10 63 [.int .u8 (n : Int)] AW.empty).map (·.1)
noncomputable def hexOk (n : Nat) : Bool := match hexC1 n with
  | some (.int .i64 v) => v == hexI n
  | _ => false
theorem hexOk_all : (List.range 256).all hexOk = true := by kernel_rfl
theorem hex_ct {L : RL} (c : UInt8) : CS Tryz.prog 63 [.int .u8 (c.toNat : Nat)] L fun v L' => v = .int .i64 (hexI c.toNat) ∧ L' = L := by
  have h := List.all_eq_true.1 hexOk_all c.toNat (List.mem_range.2 c.toNat_lt)
  unfold hexOk at h
  split at h
  · rename_i v hv
    have : v = hexI c.toNat := by simpa using h
    subst this
    exact CS.closedQ noGo mixed (fuel := 50) (depth := 10) rfl (fun ρ u h => by cases h; rfl) (fun ρ => .int _ _) hv
  · cases h

/-! ### A quoted word -/
def TR (t : List UInt8) (acc : List UInt8) (off : Nat) : Prop := tk markK t = (acc ++ (tk markK (t.drop off)).1, off + (tk markK (t.drop off)).2)
theorem TR.more {t acc : List UInt8} {off n : Nat} {c : UInt8} (h : TR t acc off) (hm : markK (t.drop off) = (c, n)) (hn : n ≠ 0) : TR t (acc ++ [c]) (off + n) := by
  unfold TR at h ⊢
  rw [h, tk_more mark_sane (s := t.drop off) (by rw [hm]; exact hn), hm, List.drop_drop]
  simp [Nat.add_assoc]
theorem TR.stop {t acc : List UInt8} {off : Nat} (h : TR t acc off) (hz : (markK (t.drop off)).2 = 0) : tk markK t = (acc, off) := by
  unfold TR at h
  rw [h, tk_stop hz]; simp
/-- What the document's quoted word is, at s[at]. -/
def quotV (s : List UInt8) (p : Nat) : Value :=
  if ((s.drop (p + 1)).drop (tk markK (s.drop (p + 1))).2).head? = some 34 then .tuple #[str (tk markK (s.drop (p + 1))).1, .int .i64 ((p + 2 + (tk markK (s.drop (p + 1))).2 : Nat) : Int), .bool true]
  else .tuple #[str [], .int .i64 0, .bool false]
theorem quot_bad {s acc : List UInt8} {p off : Nat} (h : TR (s.drop (p + 1)) acc off) (hz : (markK ((s.drop (p + 1)).drop off)).2 = 0) (hh : ((s.drop (p + 1)).drop off).head? ≠ some 34) : quotV s p = .tuple #[str [], .int .i64 0, .bool false] := by
  unfold quotV
  rw [h.stop hz, if_neg hh]
theorem quot_ok {s acc : List UInt8} {p off : Nat} (h : TR (s.drop (p + 1)) acc off) (hh : ((s.drop (p + 1)).drop off).head? = some 34) : quotV s p = .tuple #[str acc, .int .i64 ((p + 2 + off : Nat) : Int), .bool true] := by
  have hz : (markK ((s.drop (p + 1)).drop off)).2 = 0 := by
    cases hd : (s.drop (p + 1)).drop off with
    | nil => rfl
    | cons c u =>
      rw [hd] at hh
      simp at hh
      subst hh
      rfl
  unfold quotV
  rw [h.stop hz, if_pos hh]
theorem hexK_short {a b : UInt8} : ∀ {u : List UInt8}, u.length ≤ 1 → hexK (a :: b :: u) = (0, 0)
  | [], _ => rfl
  | [_], _ => rfl
  | _ :: _ :: _, h => by simp at h
theorem quoted_ct {L : RL} (s : List UInt8) (p : Nat) (hs : s.length ≤ 400) (hp : p < s.length) : CS Tryz.prog 46 [str s, .int .i64 (p : Nat)] L fun v L' => v = quotV s p ∧ L' = L := by
  suffices h : CS Tryz.prog 46 [str s, .int .i64 (p : Nat)] L fun v L' => v = quotV s p ∧ Sub L L' by
    exact h.less fun v L' ⟨h1, h2⟩ => ⟨L, h2, h1, rfl⟩
  refine CS.mk (fn := Tryz.f46) rfl rfl rfl rfl ?_
  repeat refine LS.seq ?_
  refine LS.region rfl ?_
  refine OS.pure rfl (fun _ => rfl) rfl ?_
  refine OS.pure rfl (fun _ => rfl) rfl ?_
  refine OS.pure rfl (fun _ => rfl) rfl ?_
  refine OS.nil ?_
  repeat refine LS.seq ?_
  refine LS.region rfl ?_
  refine OS.pure rfl (fun _ => rfl) rfl ?_
  refine OS.nil ?_
  repeat refine LS.seq ?_
  refine LS.region rfl ?_
  refine OS.pure rfl (fun _ => rfl) rfl ?_
  refine OS.pure rfl (e_add (m := (p : Int)) (n := 1) rfl rfl rfl (in_i64 (by omega) (by omega))) rfl ?_
  refine OS.pure rfl (fun _ => rfl) rfl ?_
  refine OS.nil ?_
  repeat refine LS.seq ?_
  refine LS.block ?_
  refine LS.loopJ [0, 7, 8] (fun q a L' => ∃ (acc : List UInt8) (off : Nat) (out : Value), q = s.length - (p + 1 + off) ∧ p + 1 + off ≤ s.length ∧ acc.length ≤ off ∧ TR (s.drop (p + 1)) acc off ∧ GV 5 1 L out acc.length (byteCells acc) L' ∧ a = [str s, .chan none, .chan none, .chan none, .chan none, .chan none, .chan none, out, .int .i64 ((p + 1 + off : Nat) : Int), .chan none, .chan none, .chan none, .chan none, .chan none, .chan none, .chan none, .chan none, .chan none, .chan none, .chan none, .chan none, .chan none, .chan none, .chan none, .chan none, .chan none, .chan none, .chan none, .chan none, .chan none, .chan none, .chan none, .chan none, .chan none, .chan none, .chan none, .chan none, .chan none, .chan none, .chan none, .chan none, .chan none, .chan none, .chan none, .chan none, .chan none, .chan none, .chan none, .chan none, .chan none, .chan none, .chan none, .chan none, .chan none, .chan none, .chan none, .chan none, .chan none, .chan none, .chan none, .chan none, .chan none, .chan none, .chan none, .chan none, .chan none, .chan none, .chan none, .chan none, .chan none, .chan none, .chan none, .chan none, .chan none, .chan none, .chan none, .chan none, .chan none, .chan none, .chan none, .chan none, .chan none, .chan none, .chan none, .chan none, .chan none, .chan none, .chan none, .chan none, .chan none, .chan none, .chan none, .chan none, .chan none, .chan none, .chan none, .chan none, .chan none, .chan none, .chan none, .chan none, .chan none, .chan none, .chan none, .chan none, .chan none, .chan none, .chan none, .chan none, .chan none, .chan none, .chan none, .chan none, .chan none]) (n := s.length - (p + 1)) rfl ⟨[], 0, _, rfl, by omega, by simp, by simp [TR], GV.nil, rfl⟩ ?_
  rintro q a L' ⟨acc, off, out, rfl, ho, ha, ht, hg, rfl⟩
  have hsub : Sub L L' := by
    rcases hg with ⟨_, _, _, rfl⟩ | ⟨r, _, _, rfl⟩
    · exact ⟨[], by simp⟩
    · exact Sub.tail
  have hdd : (s.drop (p + 1)).drop off = s.drop (p + 1 + off) := by rw [List.drop_drop]
  repeat refine LS.seq ?_
  refine LS.region rfl ?_
  refine OS.pure rfl (fun _ => rfl) rfl ?_
  refine OS.pure rfl (fun _ => rfl) rfl ?_
  refine OS.pure rfl (fun _ => rfl) rfl ?_
  refine OS.pure rfl (fun _ => rfl) rfl ?_
  refine OS.nil ?_
  repeat refine LS.seq ?_
  refine LS.cond rfl (fun hc => ?_) (fun hc => ?_)
  · have hc : ((p + 1 + off : Nat) : Int) < s.length := lt_of hc
    have hi : p + 1 + off < s.length := by omega
    have hcons : s.drop (p + 1 + off) = s[p + 1 + off] :: s.drop (p + 1 + off + 1) := List.drop_eq_getElem_cons hi
    have hget : s[p + 1 + off]? = some (s[p + 1 + off]'hi) := List.getElem?_eq_getElem hi
    generalize s[p + 1 + off] = c at hcons hget
    have more : ∀ (c' : UInt8) (n : Nat), markK (s.drop (p + 1 + off)) = (c', n) → n ≠ 0 → TR (s.drop (p + 1)) (acc ++ [c']) (off + n) ∧ n ≤ s.length - (p + 1 + off) := fun c' n h hn => by
      refine ⟨ht.more (by rw [hdd]; exact h) hn, ?_⟩
      have := mark_sane (s.drop (p + 1 + off))
      rw [h, List.length_drop] at this
      exact this
    have bad : (markK (s.drop (p + 1 + off))).2 = 0 → c ≠ 34 → quotV s p = .tuple #[str [], .int .i64 0, .bool false] := fun h1 h2 => quot_bad ht (by rw [hdd]; exact h1) (by rw [hdd, hcons]; simpa using h2)
    refine LS.skip ?_
    repeat refine LS.seq ?_
    refine LS.block ?_
    repeat refine LS.seq ?_
    refine LS.region rfl ?_
    refine OS.pure rfl (fun _ => rfl) rfl ?_
    refine OS.pure rfl (fun _ => rfl) rfl ?_
    refine OS.pure rfl (e_byte (s := s) (j := p + 1 + off) rfl rfl rfl rfl hget) rfl ?_
    refine OS.pure rfl (fun _ => rfl) rfl ?_
    refine OS.nil ?_
    repeat refine LS.seq ?_
    refine LS.block ?_
    repeat refine LS.seq ?_
    refine LS.region rfl ?_
    refine OS.pure rfl (fun _ => rfl) rfl ?_
    refine OS.pure rfl (fun _ => rfl) rfl ?_
    refine OS.pure rfl (fun _ => rfl) rfl ?_
    refine OS.nil ?_
    repeat refine LS.seq ?_
    refine LS.cond rfl (fun h1 => ?_) (fun h1 => ?_)
    · have h1 := is_u8 34 h1 rfl
      subst h1
      have hv := quot_ok ht (by rw [hdd, hcons]; rfl)
      repeat refine LS.seq ?_
      refine LS.region rfl ?_
      refine OS.pure rfl (fun _ => rfl) rfl ?_
      refine OS.read rfl (e_textSV (n := acc.length) (bs := acc) hg.sv rfl rfl rfl rfl rfl) rfl ?_
      refine OS.pure rfl (fun _ => rfl) rfl ?_
      refine OS.pure rfl (e_add (m := ((p + 1 + off : Nat) : Int)) (n := 1) rfl rfl rfl (in_i64 (by omega) (by omega))) rfl ?_
      refine OS.pure rfl (fun _ => rfl) rfl ?_
      refine OS.pure rfl (fun _ => rfl) rfl ?_
      refine OS.pure rfl (fun _ => rfl) rfl ?_
      refine OS.nil ?_
      refine LS.ret ⟨_, fun _ _ => rfl, ?_⟩
      refine ⟨?_, hsub⟩
      rw [hv, show (p + 2 + off : Nat) = (p + 1 + off) + 1 by omega]
      rfl
    have h1 := not_u8 34 h1 rfl
    repeat refine LS.seq ?_
    refine LS.region rfl ?_
    refine OS.pure rfl (fun _ => rfl) rfl ?_
    refine OS.pure rfl (fun _ => rfl) rfl ?_
    refine OS.pure rfl (fun _ => rfl) rfl ?_
    refine OS.nil ?_
    repeat refine LS.seq ?_
    refine LS.cond rfl (fun h2 => ?_) (fun h2 => ?_)
    · have h2 := is_u8 92 h2 rfl
      subst h2
      by_cases hlen : s.length ≤ p + 1 + off + 1
      · have hnil : s.drop (p + 1 + off + 1) = [] := List.drop_eq_nil_of_le hlen
        have hv := bad (by rw [hcons, hnil]; rfl) (by decide)
        have b1 : ileB (s.length : Int) (((p + 1 + off : Nat) : Int) + 1) = true := ileB_iff.2 (by omega)
        repeat refine LS.seq ?_
        refine LS.region rfl ?_
        refine OS.pure rfl (fun _ => rfl) rfl ?_
        refine OS.pure rfl (e_add (m := ((p + 1 + off : Nat) : Int)) (n := 1) rfl rfl rfl (in_i64 (by omega) (by omega))) rfl ?_
        refine OS.pure rfl (fun _ => rfl) rfl ?_
        refine OS.pure rfl (fun _ => rfl) rfl ?_
        refine OS.pure rfl (e_is (fun _ => rfl) (congrArg Value.bool b1)) rfl ?_
        refine OS.nil ?_
        repeat refine LS.seq ?_
        refine LS.cond rfl (fun h3 => ?_) (fun h3 => ?_)
        · repeat refine LS.seq ?_
          refine LS.region rfl ?_
          refine OS.pure rfl (fun _ => rfl) rfl ?_
          refine OS.pure rfl (fun _ => rfl) rfl ?_
          refine OS.pure rfl (fun _ => rfl) rfl ?_
          refine OS.nil ?_
          refine LS.ret ⟨_, fun _ _ => rfl, ?_⟩
          exact ⟨by rw [hv]; rfl, hsub⟩
        · cases h3
      have hi2 : p + 1 + off + 1 < s.length := by omega
      have hcons2 : s.drop (p + 1 + off + 1) = s[p + 1 + off + 1] :: s.drop (p + 1 + off + 1 + 1) := List.drop_eq_getElem_cons hi2
      have hget2 : s[p + 1 + off + 1]? = some (s[p + 1 + off + 1]'hi2) := List.getElem?_eq_getElem hi2
      generalize s[p + 1 + off + 1] = d at hcons2 hget2
      have b1 : ileB (s.length : Int) (((p + 1 + off : Nat) : Int) + 1) = false := by rw [ileB_eq]; simp; omega
      have hmk : markK (s.drop (p + 1 + off)) = escK (92 :: d :: s.drop (p + 1 + off + 1 + 1)) := by rw [hcons, hcons2]; simp [markK, isS]
      repeat refine LS.seq ?_
      refine LS.region rfl ?_
      refine OS.pure rfl (fun _ => rfl) rfl ?_
      refine OS.pure rfl (e_add (m := ((p + 1 + off : Nat) : Int)) (n := 1) rfl rfl rfl (in_i64 (by omega) (by omega))) rfl ?_
      refine OS.pure rfl (fun _ => rfl) rfl ?_
      refine OS.pure rfl (fun _ => rfl) rfl ?_
      refine OS.pure rfl (e_is (fun _ => rfl) (congrArg Value.bool b1)) rfl ?_
      refine OS.nil ?_
      repeat refine LS.seq ?_
      refine LS.cond rfl (fun h3 => ?_) (fun h3 => ?_)
      · cases h3
      refine LS.skip ?_
      repeat refine LS.seq ?_
      refine LS.region rfl ?_
      refine OS.pure rfl (fun _ => rfl) rfl ?_
      refine OS.pure rfl (fun _ => rfl) rfl ?_
      refine OS.pure rfl (e_add (m := ((p + 1 + off : Nat) : Int)) (n := 1) rfl rfl rfl (in_i64 (by omega) (by omega))) rfl ?_
      rw [show (((p + 1 + off : Nat) : Int) + 1) = ((p + 1 + off + 1 : Nat) : Int) by omega]
      refine OS.pure rfl (e_byte (s := s) (j := p + 1 + off + 1) rfl rfl rfl rfl hget2) rfl ?_
      refine OS.nil ?_
      repeat refine LS.seq ?_
      refine LS.block ?_
      repeat refine LS.seq ?_
      refine LS.region rfl ?_
      refine OS.pure rfl (fun _ => rfl) rfl ?_
      refine OS.pure rfl (fun _ => rfl) rfl ?_
      refine OS.nil ?_
      repeat refine LS.seq ?_
      refine LS.cond rfl (fun g1 => ?_) (fun g1 => ?_)
      · have g1 := is_u8 34 g1 rfl
        subst g1
        obtain ⟨hm, hle⟩ := more 34 2 (by rw [hmk]; simp [escK]) (by omega)
        refine LS.skip ?_
        repeat refine LS.seq ?_
        refine LS.cond rfl (fun h3 => ?_) (fun h3 => ?_)
        · repeat refine LS.seq ?_
          refine LS.region rfl ?_
          refine OS.pure rfl (fun _ => rfl) rfl ?_
          refine OS.pure rfl (fun _ => rfl) rfl ?_
          refine OS.pure rfl (fun _ => rfl) rfl ?_
          refine OS.pure rfl (e_add (m := ((p + 1 + off : Nat) : Int)) (n := 1) rfl rfl rfl (in_i64 (by omega) (by omega))) rfl ?_
          rw [show (((p + 1 + off : Nat) : Int) + 1) = ((p + 1 + off + 1 : Nat) : Int) by omega]
          refine OS.pure rfl (e_byte (s := s) (j := p + 1 + off + 1) rfl rfl rfl rfl hget2) rfl ?_
          refine OS.fresh rfl (e_new (fun _ => rfl) rfl) (fun _ => rfl) (fun r2 => ?_)
          refine OS.fresh rfl (e_appendGV [(r2, _)] (m := 1) (sz := 1) (bts := 1) hg (SV.row (sz := 1) (n := 1) (List.mem_cons_self ..) rfl) (by omega) rfl rfl rfl rfl (by omega) (by omega)) (fun _ => rfl) (fun r3 => ?_)
          refine OS.pure rfl (fun _ => rfl) rfl ?_
          refine OS.sub (Sub.drop 1 rfl) ?_
          refine OS.nil ?_
          repeat refine LS.seq ?_
          refine LS.region rfl ?_
          refine OS.pure rfl (fun _ => rfl) rfl ?_
          refine OS.pure rfl (e_add (m := ((p + 1 + off : Nat) : Int)) (n := 2) rfl rfl rfl (in_i64 (by omega) (by omega))) rfl ?_
          rw [show (((p + 1 + off : Nat) : Int) + 2) = ((p + 1 + (off + 2) : Nat) : Int) by omega]
          refine OS.pure rfl (fun _ => rfl) rfl ?_
          refine OS.nil ?_
          refine ⟨s.length - (p + 1 + (off + 2)), by omega, acc ++ [34], off + 2, _, rfl, by omega, by simp; omega, hm, ?_, rfl⟩
          rw [byteCells_append, List.length_append]; exact GV.of (by simp [byteCells])
        · cases h3
      have g1 := not_u8 34 g1 rfl
      repeat refine LS.seq ?_
      refine LS.region rfl ?_
      refine OS.pure rfl (fun _ => rfl) rfl ?_
      refine OS.pure rfl (fun _ => rfl) rfl ?_
      refine OS.nil ?_
      repeat refine LS.seq ?_
      refine LS.cond rfl (fun g2 => ?_) (fun g2 => ?_)
      · have g2 := is_u8 92 g2 rfl
        subst g2
        obtain ⟨hm, hle⟩ := more 92 2 (by rw [hmk]; simp [escK]) (by omega)
        repeat refine LS.seq ?_
        refine LS.region rfl ?_
        refine OS.pure rfl (fun _ => rfl) rfl ?_
        refine OS.pure rfl (fun _ => rfl) rfl ?_
        refine OS.pure rfl (fun _ => rfl) rfl ?_
        refine OS.pure rfl (e_add (m := ((p + 1 + off : Nat) : Int)) (n := 1) rfl rfl rfl (in_i64 (by omega) (by omega))) rfl ?_
        rw [show (((p + 1 + off : Nat) : Int) + 1) = ((p + 1 + off + 1 : Nat) : Int) by omega]
        refine OS.pure rfl (e_byte (s := s) (j := p + 1 + off + 1) rfl rfl rfl rfl hget2) rfl ?_
        refine OS.fresh rfl (e_new (fun _ => rfl) rfl) (fun _ => rfl) (fun r2 => ?_)
        refine OS.fresh rfl (e_appendGV [(r2, _)] (m := 1) (sz := 1) (bts := 1) hg (SV.row (sz := 1) (n := 1) (List.mem_cons_self ..) rfl) (by omega) rfl rfl rfl rfl (by omega) (by omega)) (fun _ => rfl) (fun r3 => ?_)
        refine OS.pure rfl (fun _ => rfl) rfl ?_
        refine OS.sub (Sub.drop 1 rfl) ?_
        refine OS.nil ?_
        repeat refine LS.seq ?_
        refine LS.region rfl ?_
        refine OS.pure rfl (fun _ => rfl) rfl ?_
        refine OS.pure rfl (e_add (m := ((p + 1 + off : Nat) : Int)) (n := 2) rfl rfl rfl (in_i64 (by omega) (by omega))) rfl ?_
        rw [show (((p + 1 + off : Nat) : Int) + 2) = ((p + 1 + (off + 2) : Nat) : Int) by omega]
        refine OS.pure rfl (fun _ => rfl) rfl ?_
        refine OS.nil ?_
        refine ⟨s.length - (p + 1 + (off + 2)), by omega, acc ++ [92], off + 2, _, rfl, by omega, by simp; omega, hm, ?_, rfl⟩
        rw [byteCells_append, List.length_append]; exact GV.of (by simp [byteCells])
      have g2 := not_u8 92 g2 rfl
      repeat refine LS.seq ?_
      refine LS.region rfl ?_
      refine OS.pure rfl (fun _ => rfl) rfl ?_
      refine OS.pure rfl (fun _ => rfl) rfl ?_
      refine OS.nil ?_
      repeat refine LS.seq ?_
      refine LS.cond rfl (fun g3 => ?_) (fun g3 => ?_)
      · have g3 := is_u8 110 g3 rfl
        subst g3
        obtain ⟨hm, hle⟩ := more 10 2 (by rw [hmk]; simp [escK]) (by omega)
        repeat refine LS.seq ?_
        refine LS.region rfl ?_
        refine OS.pure rfl (fun _ => rfl) rfl ?_
        refine OS.fresh rfl (e_new (fun _ => rfl) rfl) (fun _ => rfl) (fun r2 => ?_)
        refine OS.fresh rfl (e_appendGV [(r2, _)] (m := 1) (sz := 1) (bts := 1) hg (SV.row (sz := 1) (n := 1) (List.mem_cons_self ..) rfl) (by omega) rfl rfl rfl rfl (by omega) (by omega)) (fun _ => rfl) (fun r3 => ?_)
        refine OS.pure rfl (fun _ => rfl) rfl ?_
        refine OS.sub (Sub.drop 1 rfl) ?_
        refine OS.nil ?_
        repeat refine LS.seq ?_
        refine LS.region rfl ?_
        refine OS.pure rfl (fun _ => rfl) rfl ?_
        refine OS.pure rfl (e_add (m := ((p + 1 + off : Nat) : Int)) (n := 2) rfl rfl rfl (in_i64 (by omega) (by omega))) rfl ?_
        rw [show (((p + 1 + off : Nat) : Int) + 2) = ((p + 1 + (off + 2) : Nat) : Int) by omega]
        refine OS.pure rfl (fun _ => rfl) rfl ?_
        refine OS.nil ?_
        refine ⟨s.length - (p + 1 + (off + 2)), by omega, acc ++ [10], off + 2, _, rfl, by omega, by simp; omega, hm, ?_, rfl⟩
        rw [byteCells_append, List.length_append]; exact GV.of (by simp [byteCells])
      have g3 := not_u8 110 g3 rfl
      repeat refine LS.seq ?_
      refine LS.region rfl ?_
      refine OS.pure rfl (fun _ => rfl) rfl ?_
      refine OS.pure rfl (fun _ => rfl) rfl ?_
      refine OS.nil ?_
      repeat refine LS.seq ?_
      refine LS.cond rfl (fun g4 => ?_) (fun g4 => ?_)
      · have g4 := is_u8 116 g4 rfl
        subst g4
        obtain ⟨hm, hle⟩ := more 9 2 (by rw [hmk]; simp [escK]) (by omega)
        repeat refine LS.seq ?_
        refine LS.region rfl ?_
        refine OS.pure rfl (fun _ => rfl) rfl ?_
        refine OS.fresh rfl (e_new (fun _ => rfl) rfl) (fun _ => rfl) (fun r2 => ?_)
        refine OS.fresh rfl (e_appendGV [(r2, _)] (m := 1) (sz := 1) (bts := 1) hg (SV.row (sz := 1) (n := 1) (List.mem_cons_self ..) rfl) (by omega) rfl rfl rfl rfl (by omega) (by omega)) (fun _ => rfl) (fun r3 => ?_)
        refine OS.pure rfl (fun _ => rfl) rfl ?_
        refine OS.sub (Sub.drop 1 rfl) ?_
        refine OS.nil ?_
        repeat refine LS.seq ?_
        refine LS.region rfl ?_
        refine OS.pure rfl (fun _ => rfl) rfl ?_
        refine OS.pure rfl (e_add (m := ((p + 1 + off : Nat) : Int)) (n := 2) rfl rfl rfl (in_i64 (by omega) (by omega))) rfl ?_
        rw [show (((p + 1 + off : Nat) : Int) + 2) = ((p + 1 + (off + 2) : Nat) : Int) by omega]
        refine OS.pure rfl (fun _ => rfl) rfl ?_
        refine OS.nil ?_
        refine ⟨s.length - (p + 1 + (off + 2)), by omega, acc ++ [9], off + 2, _, rfl, by omega, by simp; omega, hm, ?_, rfl⟩
        rw [byteCells_append, List.length_append]; exact GV.of (by simp [byteCells])
      have g4 := not_u8 116 g4 rfl
      repeat refine LS.seq ?_
      refine LS.region rfl ?_
      refine OS.pure rfl (fun _ => rfl) rfl ?_
      refine OS.pure rfl (fun _ => rfl) rfl ?_
      refine OS.nil ?_
      repeat refine LS.seq ?_
      refine LS.cond rfl (fun g5 => ?_) (fun g5 => ?_)
      · have g5 := is_u8 120 g5 rfl
        subst g5
        by_cases h4 : s.length ≤ p + 1 + off + 3
        · have hv := bad (by rw [hmk]; show (escK (92 :: 120 :: _)).2 = 0; simp only [escK]; rw [show hexK (92 :: 120 :: s.drop (p + 1 + off + 1 + 1)) = (0, 0) from hexK_short (by rw [List.length_drop]; omega)]; rfl) (by decide)
          have b3 : ileB (s.length : Int) (((p + 1 + off : Nat) : Int) + 3) = true := ileB_iff.2 (by omega)
          repeat refine LS.seq ?_
          refine LS.region rfl ?_
          refine OS.pure rfl (fun _ => rfl) rfl ?_
          refine OS.pure rfl (e_add (m := ((p + 1 + off : Nat) : Int)) (n := 3) rfl rfl rfl (in_i64 (by omega) (by omega))) rfl ?_
          refine OS.pure rfl (fun _ => rfl) rfl ?_
          refine OS.pure rfl (fun _ => rfl) rfl ?_
          refine OS.pure rfl (e_is (fun _ => rfl) (congrArg Value.bool b3)) rfl ?_
          refine OS.pure rfl (fun _ => rfl) rfl ?_
          refine OS.skip rfl rfl ?_
          refine OS.skip rfl rfl ?_
          refine OS.skip rfl rfl ?_
          refine OS.skip rfl rfl ?_
          refine OS.skip rfl rfl ?_
          refine OS.skip rfl rfl ?_
          refine OS.pure rfl (fun _ => rfl) rfl ?_
          refine OS.pure rfl (fun _ => rfl) rfl ?_
          refine OS.skip rfl rfl ?_
          refine OS.skip rfl rfl ?_
          refine OS.skip rfl rfl ?_
          refine OS.skip rfl rfl ?_
          refine OS.skip rfl rfl ?_
          refine OS.skip rfl rfl ?_
          refine OS.pure rfl (fun _ => rfl) rfl ?_
          refine OS.nil ?_
          repeat refine LS.seq ?_
          refine LS.cond rfl (fun h5 => ?_) (fun h5 => ?_)
          · repeat refine LS.seq ?_
            refine LS.region rfl ?_
            refine OS.pure rfl (fun _ => rfl) rfl ?_
            refine OS.pure rfl (fun _ => rfl) rfl ?_
            refine OS.pure rfl (fun _ => rfl) rfl ?_
            refine OS.nil ?_
            refine LS.ret ⟨_, fun _ _ => rfl, ?_⟩
            exact ⟨by rw [hv]; rfl, hsub⟩
          · cases h5
        have hi3 : p + 1 + off + 2 < s.length := by omega
        have hi4 : p + 1 + off + 3 < s.length := by omega
        have hcons3 : s.drop (p + 1 + off + 1 + 1) = s[p + 1 + off + 2] :: s[p + 1 + off + 3] :: s.drop (p + 1 + off + 4) := by
          rw [List.drop_eq_getElem_cons hi3, List.drop_eq_getElem_cons hi4]
        have hget3 : s[p + 1 + off + 2]? = some (s[p + 1 + off + 2]'hi3) := List.getElem?_eq_getElem hi3
        have hget4 : s[p + 1 + off + 3]? = some (s[p + 1 + off + 3]'hi4) := List.getElem?_eq_getElem hi4
        generalize s[p + 1 + off + 2] = x at hcons3 hget3
        generalize s[p + 1 + off + 3] = y at hcons3 hget4
        rw [hcons3] at hmk
        have hmk2 : markK (s.drop (p + 1 + off)) = hexK (92 :: 120 :: x :: y :: s.drop (p + 1 + off + 4)) := by rw [hmk]; simp [escK]
        have b3 : ileB (s.length : Int) (((p + 1 + off : Nat) : Int) + 3) = false := by rw [ileB_eq]; simp; omega
        repeat refine LS.seq ?_
        refine LS.region rfl ?_
        refine OS.pure rfl (fun _ => rfl) rfl ?_
        refine OS.pure rfl (e_add (m := ((p + 1 + off : Nat) : Int)) (n := 3) rfl rfl rfl (in_i64 (by omega) (by omega))) rfl ?_
        refine OS.pure rfl (fun _ => rfl) rfl ?_
        refine OS.pure rfl (fun _ => rfl) rfl ?_
        refine OS.pure rfl (e_is (fun _ => rfl) (congrArg Value.bool b3)) rfl ?_
        refine OS.pure rfl (fun _ => rfl) rfl ?_
        refine OS.pure rfl (fun _ => rfl) rfl ?_
        refine OS.pure rfl (fun _ => rfl) rfl ?_
        refine OS.pure rfl (e_add (m := ((p + 1 + off : Nat) : Int)) (n := 2) rfl rfl rfl (in_i64 (by omega) (by omega))) rfl ?_
        rw [show (((p + 1 + off : Nat) : Int) + 2) = ((p + 1 + off + 2 : Nat) : Int) by omega]
        refine OS.pure rfl (e_byte (s := s) (j := p + 1 + off + 2) rfl rfl rfl rfl hget3) rfl ?_
        refine OS.call noGo rfl (fun _ => rfl) ((hex_ct x).mono ?_)
        rintro v L₁ ⟨rfl, rfl⟩
        cases hx : hexN x.toNat with
        | none =>
          have hI : hexI x.toNat = -1 := by unfold hexI; rw [hx]
          have hv := bad (by rw [hmk2]; simp [hexK, hx]) (by decide)
          rw [hI]
          refine ⟨_, rfl, ?_⟩
          refine OS.pure rfl (fun _ => rfl) rfl ?_
          refine OS.pure rfl (fun _ => rfl) rfl ?_
          refine OS.pure rfl (fun _ => rfl) rfl ?_
          refine OS.skip rfl rfl ?_
          refine OS.skip rfl rfl ?_
          refine OS.skip rfl rfl ?_
          refine OS.skip rfl rfl ?_
          refine OS.skip rfl rfl ?_
          refine OS.skip rfl rfl ?_
          refine OS.pure rfl (fun _ => rfl) rfl ?_
          refine OS.nil ?_
          repeat refine LS.seq ?_
          refine LS.cond rfl (fun h5 => ?_) (fun h5 => ?_)
          · repeat refine LS.seq ?_
            refine LS.region rfl ?_
            refine OS.pure rfl (fun _ => rfl) rfl ?_
            refine OS.pure rfl (fun _ => rfl) rfl ?_
            refine OS.pure rfl (fun _ => rfl) rfl ?_
            refine OS.nil ?_
            refine LS.ret ⟨_, fun _ _ => rfl, ?_⟩
            exact ⟨by rw [hv]; rfl, hsub⟩
          · cases h5
        | some hh =>
          have hI : hexI x.toNat = (hh : Nat) := by unfold hexI; rw [hx]
          have hlt := hexN_lt hx
          have b4 : (!ileB 0 ((hh : Nat) : Int)) = false := by rw [ileB_eq]; simp
          rw [hI]
          refine ⟨_, rfl, ?_⟩
          refine OS.pure rfl (e_is (fun _ => rfl) (congrArg Value.bool b4)) rfl ?_
          refine OS.pure rfl (fun _ => rfl) rfl ?_
          refine OS.pure rfl (fun _ => rfl) rfl ?_
          refine OS.pure rfl (fun _ => rfl) rfl ?_
          refine OS.pure rfl (fun _ => rfl) rfl ?_
          refine OS.pure rfl (e_add (m := ((p + 1 + off : Nat) : Int)) (n := 3) rfl rfl rfl (in_i64 (by omega) (by omega))) rfl ?_
          rw [show (((p + 1 + off : Nat) : Int) + 3) = ((p + 1 + off + 3 : Nat) : Int) by omega]
          refine OS.pure rfl (e_byte (s := s) (j := p + 1 + off + 3) rfl rfl rfl rfl hget4) rfl ?_
          refine OS.call noGo rfl (fun _ => rfl) ((hex_ct y).mono ?_)
          rintro v L₂ ⟨rfl, rfl⟩
          cases hy : hexN y.toNat with
          | none =>
            have hJ : hexI y.toNat = -1 := by unfold hexI; rw [hy]
            have hv := bad (by rw [hmk2]; simp [hexK, hx, hy]) (by decide)
            rw [hJ]
            refine ⟨_, rfl, ?_⟩
            refine OS.pure rfl (fun _ => rfl) rfl ?_
            refine OS.pure rfl (fun _ => rfl) rfl ?_
            refine OS.nil ?_
            repeat refine LS.seq ?_
            refine LS.cond rfl (fun h5 => ?_) (fun h5 => ?_)
            · repeat refine LS.seq ?_
              refine LS.region rfl ?_
              refine OS.pure rfl (fun _ => rfl) rfl ?_
              refine OS.pure rfl (fun _ => rfl) rfl ?_
              refine OS.pure rfl (fun _ => rfl) rfl ?_
              refine OS.nil ?_
              refine LS.ret ⟨_, fun _ _ => rfl, ?_⟩
              exact ⟨by rw [hv]; rfl, hsub⟩
            · cases h5
          | some ll =>
            have hJ : hexI y.toNat = (ll : Nat) := by unfold hexI; rw [hy]
            have hlt2 := hexN_lt hy
            have b5 : (!ileB 0 ((ll : Nat) : Int)) = false := by rw [ileB_eq]; simp
            have hb : (16 * ((hh : Nat) : Int) + ((ll : Nat) : Int)) = ((UInt8.ofNat (16 * hh + ll)).toNat : Nat) := by rw [UInt8.toNat_ofNat']; omega
            obtain ⟨hm, hle⟩ := more (UInt8.ofNat (16 * hh + ll)) 4 (by rw [hmk2]; simp [hexK, hx, hy]) (by omega)
            rw [hJ]
            refine ⟨_, rfl, ?_⟩
            refine OS.pure rfl (e_is (fun _ => rfl) (congrArg Value.bool b5)) rfl ?_
            refine OS.pure rfl (fun _ => rfl) rfl ?_
            refine OS.nil ?_
            repeat refine LS.seq ?_
            refine LS.cond rfl (fun h5 => ?_) (fun h5 => ?_)
            · cases h5
            refine LS.skip ?_
            repeat refine LS.seq ?_
            refine LS.drawn noGo mixed [(0, false), (1, false), (2, false), (3, false), (4, false), (5, false), (6, false), (7, false), (8, false), (9, false), (10, false), (11, false), (12, false), (13, false), (14, true), (15, true), (16, false)] rfl rfl (by kernel_rfl) ?_
            refine ODS.pure rfl rfl (fun _ => rfl) rfl ?_
            refine ODS.pure rfl rfl (fun _ => rfl) rfl ?_
            refine ODS.pure rfl rfl (fun _ => rfl) rfl ?_
            refine ODS.pure rfl rfl (e_add (m := ((p + 1 + off : Nat) : Int)) (n := 2) rfl rfl rfl (in_i64 (by omega) (by omega))) rfl ?_
            rw [show (((p + 1 + off : Nat) : Int) + 2) = ((p + 1 + off + 2 : Nat) : Int) by omega]
            refine ODS.pure rfl rfl (e_byte (s := s) (j := p + 1 + off + 2) rfl rfl rfl rfl hget3) rfl ?_
            refine ODS.still rfl rfl (fun _ => rfl) (CQ.still (R := fun v => v = .int .i64 ((hh : Nat) : Int)) ((hex_ct x).mono (fun v L' e => ⟨by rw [e.1, hI], by rw [e.1]; rfl⟩)) rfl) rfl ?_
            refine ODS.pure rfl rfl (e_mul (m := 16) (n := ((hh : Nat) : Int)) rfl rfl rfl (in_i64 (by omega) (by omega))) rfl ?_
            refine ODS.pure rfl rfl (fun _ => rfl) rfl ?_
            refine ODS.pure rfl rfl (fun _ => rfl) rfl ?_
            refine ODS.pure rfl rfl (e_add (m := ((p + 1 + off : Nat) : Int)) (n := 3) rfl rfl rfl (in_i64 (by omega) (by omega))) rfl ?_
            rw [show (((p + 1 + off : Nat) : Int) + 3) = ((p + 1 + off + 3 : Nat) : Int) by omega]
            refine ODS.pure rfl rfl (e_byte (s := s) (j := p + 1 + off + 3) rfl rfl rfl rfl hget4) rfl ?_
            refine ODS.still rfl rfl (fun _ => rfl) (CQ.still (R := fun v => v = .int .i64 ((ll : Nat) : Int)) ((hex_ct y).mono (fun v L' e => ⟨by rw [e.1, hJ], by rw [e.1]; rfl⟩)) rfl) rfl ?_
            refine ODS.pure rfl rfl (e_add (m := 16 * ((hh : Nat) : Int)) (n := ((ll : Nat) : Int)) rfl rfl rfl (in_i64 (by omega) (by omega))) rfl ?_
            refine ODS.pure rfl rfl (e_conv rfl rfl rfl rfl (in_u8 (by omega) (by omega))) rfl ?_
            rw [hb]
            refine ODS.fresh rfl rfl (e_new (fun _ => rfl) rfl) (fun _ => rfl) (fun _ => Keep.nil) (fun r2 => ?_)
            refine ODS.fresh rfl rfl (e_appendGV [(r2, _)] (m := 1) (sz := 1) (bts := 1) hg (SV.row (sz := 1) (n := 1) (List.mem_cons_self ..) rfl) (by omega) rfl rfl rfl rfl (by omega) (by omega)) (fun _ => rfl) (fun _ => Keep.nil) (fun r3 => ?_)
            refine ODS.pure rfl rfl (fun _ => rfl) rfl ?_
            refine ODS.nil ?_
            refine LS.sub (Sub.drop 1 rfl) ?_
            repeat refine LS.seq ?_
            refine LS.region rfl ?_
            refine OS.pure rfl (fun _ => rfl) rfl ?_
            refine OS.pure rfl (e_add (m := ((p + 1 + off : Nat) : Int)) (n := 2) rfl rfl rfl (in_i64 (by omega) (by omega))) rfl ?_
            rw [show (((p + 1 + off : Nat) : Int) + 2) = ((p + 1 + off + 2 : Nat) : Int) by omega]
            refine OS.pure rfl (fun _ => rfl) rfl ?_
            refine OS.nil ?_
            repeat refine LS.seq ?_
            refine LS.region rfl ?_
            refine OS.pure rfl (fun _ => rfl) rfl ?_
            refine OS.pure rfl (e_add (m := ((p + 1 + off + 2 : Nat) : Int)) (n := 2) rfl rfl rfl (in_i64 (by omega) (by omega))) rfl ?_
            rw [show (((p + 1 + off + 2 : Nat) : Int) + 2) = ((p + 1 + (off + 4) : Nat) : Int) by omega]
            refine OS.pure rfl (fun _ => rfl) rfl ?_
            refine OS.nil ?_
            refine ⟨s.length - (p + 1 + (off + 4)), by omega, acc ++ [UInt8.ofNat (16 * hh + ll)], off + 4, _, rfl, by omega, by simp; omega, hm, ?_, rfl⟩
            rw [byteCells_append, List.length_append]; exact GV.of (by simp [byteCells])
      have g5 := not_u8 120 g5 rfl
      have hv := bad (by rw [hmk]; simp [escK, g1, g2, g3, g4, g5]) (by decide)
      repeat refine LS.seq ?_
      refine LS.region rfl ?_
      refine OS.pure rfl (fun _ => rfl) rfl ?_
      refine OS.pure rfl (fun _ => rfl) rfl ?_
      refine OS.pure rfl (fun _ => rfl) rfl ?_
      refine OS.nil ?_
      refine LS.ret ⟨_, fun _ _ => rfl, ?_⟩
      exact ⟨by rw [hv]; rfl, hsub⟩
    have h2 := not_u8 92 h2 rfl
    by_cases hS : isS c = true
    · obtain ⟨hm, hle⟩ := more c 1 (by rw [hcons]; simp [markK, hS, h1, h2]) (by omega)
      have hS' := hS
      simp only [isS, Bool.and_eq_true, decide_eq_true_eq] at hS'
      have b1 : ileB 32 (c.toNat : Int) = true := ileB_iff.2 (by omega)
      have b2 : ileB (c.toNat : Int) 126 = true := ileB_iff.2 (by omega)
      repeat refine LS.seq ?_
      refine LS.region rfl ?_
      refine OS.pure rfl (fun _ => rfl) rfl ?_
      refine OS.pure rfl (e_is (fun _ => rfl) (congrArg Value.bool b1)) rfl ?_
      refine OS.pure rfl (fun _ => rfl) rfl ?_
      refine OS.pure rfl (fun _ => rfl) rfl ?_
      refine OS.pure rfl (e_is (fun _ => rfl) (congrArg Value.bool b2)) rfl ?_
      refine OS.pure rfl (fun _ => rfl) rfl ?_
      refine OS.pure rfl (fun _ => rfl) rfl ?_
      refine OS.nil ?_
      repeat refine LS.seq ?_
      refine LS.cond rfl (fun h3 => ?_) (fun h3 => ?_)
      · repeat refine LS.seq ?_
        refine LS.region rfl ?_
        refine OS.pure rfl (fun _ => rfl) rfl ?_
        refine OS.pure rfl (fun _ => rfl) rfl ?_
        refine OS.fresh rfl (e_new (fun _ => rfl) rfl) (fun _ => rfl) (fun r2 => ?_)
        refine OS.fresh rfl (e_appendGV [(r2, _)] (m := 1) (sz := 1) (bts := 1) hg (SV.row (sz := 1) (n := 1) (List.mem_cons_self ..) rfl) (by omega) rfl rfl rfl rfl (by omega) (by omega)) (fun _ => rfl) (fun r3 => ?_)
        refine OS.pure rfl (fun _ => rfl) rfl ?_
        refine OS.sub (Sub.drop 1 rfl) ?_
        refine OS.nil ?_
        repeat refine LS.seq ?_
        refine LS.region rfl ?_
        refine OS.pure rfl (fun _ => rfl) rfl ?_
        refine OS.pure rfl (e_add (m := ((p + 1 + off : Nat) : Int)) (n := 1) rfl rfl rfl (in_i64 (by omega) (by omega))) rfl ?_
        rw [show (((p + 1 + off : Nat) : Int) + 1) = ((p + 1 + (off + 1) : Nat) : Int) by omega]
        refine OS.pure rfl (fun _ => rfl) rfl ?_
        refine OS.nil ?_
        refine ⟨s.length - (p + 1 + (off + 1)), by omega, acc ++ [c], off + 1, _, rfl, by omega, by simp; omega, hm, ?_, rfl⟩
        rw [byteCells_append, List.length_append]; exact GV.of (by simp [byteCells])
      · cases h3
    · have hm0 : (markK (s.drop (p + 1 + off))).2 = 0 := by rw [hcons]; simp [markK, hS]
      have hv := bad hm0 h1
      by_cases h32 : 32 ≤ c.toNat
      · have h126 : ¬ c.toNat ≤ 126 := fun h => hS (by simp [isS, h32, h])
        have b1 : ileB 32 (c.toNat : Int) = true := ileB_iff.2 (by omega)
        have b2 : ileB (c.toNat : Int) 126 = false := by rw [ileB_eq]; simp; omega
        repeat refine LS.seq ?_
        refine LS.region rfl ?_
        refine OS.pure rfl (fun _ => rfl) rfl ?_
        refine OS.pure rfl (e_is (fun _ => rfl) (congrArg Value.bool b1)) rfl ?_
        refine OS.pure rfl (fun _ => rfl) rfl ?_
        refine OS.pure rfl (fun _ => rfl) rfl ?_
        refine OS.pure rfl (e_is (fun _ => rfl) (congrArg Value.bool b2)) rfl ?_
        refine OS.pure rfl (fun _ => rfl) rfl ?_
        refine OS.pure rfl (fun _ => rfl) rfl ?_
        refine OS.nil ?_
        repeat refine LS.seq ?_
        refine LS.cond rfl (fun h3 => ?_) (fun h3 => ?_)
        · cases h3
        · repeat refine LS.seq ?_
          refine LS.region rfl ?_
          refine OS.pure rfl (fun _ => rfl) rfl ?_
          refine OS.pure rfl (fun _ => rfl) rfl ?_
          refine OS.pure rfl (fun _ => rfl) rfl ?_
          refine OS.nil ?_
          refine LS.ret ⟨_, fun _ _ => rfl, ?_⟩
          exact ⟨by rw [hv]; rfl, hsub⟩
      · have b1 : ileB 32 (c.toNat : Int) = false := by rw [ileB_eq]; simp; omega
        repeat refine LS.seq ?_
        refine LS.region rfl ?_
        refine OS.pure rfl (fun _ => rfl) rfl ?_
        refine OS.pure rfl (e_is (fun _ => rfl) (congrArg Value.bool b1)) rfl ?_
        refine OS.pure rfl (fun _ => rfl) rfl ?_
        refine OS.skip rfl rfl ?_
        refine OS.skip rfl rfl ?_
        refine OS.pure rfl (fun _ => rfl) rfl ?_
        refine OS.pure rfl (fun _ => rfl) rfl ?_
        refine OS.nil ?_
        repeat refine LS.seq ?_
        refine LS.cond rfl (fun h3 => ?_) (fun h3 => ?_)
        · cases h3
        · repeat refine LS.seq ?_
          refine LS.region rfl ?_
          refine OS.pure rfl (fun _ => rfl) rfl ?_
          refine OS.pure rfl (fun _ => rfl) rfl ?_
          refine OS.pure rfl (fun _ => rfl) rfl ?_
          refine OS.nil ?_
          refine LS.ret ⟨_, fun _ _ => rfl, ?_⟩
          exact ⟨by rw [hv]; rfl, hsub⟩
  · have hc : (s.length : Int) ≤ ((p + 1 + off : Nat) : Int) := nlt_of hc
    have h0 : s.drop (p + 1 + off) = [] := List.drop_eq_nil_of_le (by omega)
    have hv := quot_bad ht (by rw [hdd, h0]; rfl) (by rw [hdd, h0]; simp)
    refine LS.exit ?_
    repeat refine LS.seq ?_
    refine LS.region rfl ?_
    refine OS.pure rfl (fun _ => rfl) rfl ?_
    refine OS.pure rfl (fun _ => rfl) rfl ?_
    refine OS.pure rfl (fun _ => rfl) rfl ?_
    refine OS.nil ?_
    refine LS.ret ⟨_, fun _ _ => rfl, ?_⟩
    exact ⟨by rw [hv]; rfl, hsub⟩
end Go.Proofs.YtfmgoagkjjmefaaGreatDoor

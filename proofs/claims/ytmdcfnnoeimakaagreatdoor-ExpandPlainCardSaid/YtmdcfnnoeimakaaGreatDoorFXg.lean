/- Layer 13: variables put into a text. -/
import Derived.Test.YtmdcfnnoeimakaaGreatDoorFXf
namespace Go.Xp
set_option linter.unusedVariables false
def pre (a : B) : Except Nat B → Except Nat B
  | .ok o => .ok (a ++ o)
  | .error e => .error e
/-- What comes of what is behind a $, if there is one. -/
def D (look : B → Option B) (rest : B) (more : Bool) (acc : B) : Except Nat B :=
  if more then match mark rest with
    | none => .error 4
    | some (none, b) => pre (acc ++ [36]) (sub look (b.length + 1) b)
    | some (some x, b) => match look x with
      | none => .error 63
      | some w => pre (acc ++ w) (sub look (b.length + 1) b)
  else .ok acc
theorem sub_D (look : B → Option B) (b a : B) : pre a (sub look (b.length + 1) b) = D look (tl 36 b) (fd 36 b) (a ++ hd 36 b) := by
  have hdw := List.takeWhile_append_dropWhile (p := (· != (36 : UInt8))) (l := b)
  rw [sub]
  cases h : b.dropWhile (· != 36) with
  | nil =>
    rw [h, List.append_nil] at hdw
    have e1 : hd 36 b = b := hdw
    have e2 : fd 36 b = false := by unfold fd; rw [e1]; simp
    rw [e2, D, if_neg (by simp)]
    rfl
  | cons c t =>
    rw [h] at hdw
    have hl := congrArg List.length hdw
    rw [List.length_append, List.length_cons] at hl
    have e0 : (b.takeWhile (· != 36)).length = (hd 36 b).length := rfl
    have e2 : fd 36 b = true := by unfold fd; exact decide_eq_true (by omega)
    have e3 : tl 36 b = t := by
      unfold tl
      rw [← e0]
      conv => lhs; rw [← hdw]
      rw [show b.takeWhile (· != 36) ++ c :: t = (b.takeWhile (· != 36) ++ [c]) ++ t by simp, List.drop_left' (by simp [hdw])]
    rw [e2, e3, D, if_pos rfl]
    simp only []
    cases hm : mark t with
    | none => rfl
    | some x =>
      obtain ⟨x, b'⟩ := x
      have hb := mark_len hm
      have e4 := sub_more look b.length (b'.length + 1) b' (by omega) (by omega)
      cases x with
      | none =>
        simp only []
        rw [e4]
        cases sub look (b'.length + 1) b' with
        | ok o => simp [pre, hd]
        | error e => rfl
      | some x =>
        simp only []
        cases look x with
        | none => rfl
        | some w =>
          simp only []
          rw [e4]
          cases sub look (b'.length + 1) b' with
          | ok o => simp [pre, hd]
          | error e => rfl
theorem look_mem {l : List (B × B)} {n w : B} (h : look l n = some w) : (n, w) ∈ l := by
  unfold look at h
  rw [Option.map_eq_some_iff] at h
  obtain ⟨p, h1, rfl⟩ := h
  have h2 := List.mem_of_find?_eq_some h1
  have h3 := List.find?_some h1
  simp at h2 h3
  rw [← h3]
  exact h2
end Go.Xp
namespace Go.Proofs.YtmdcfnnoeimakaaGreatDoor.E
open Go.Proofs.YtmdcfnnoeimakaaGreatDoor
open Go.Am Go.Xp
set_option linter.unusedVariables false
set_option linter.unusedSimpArgs false
set_option maxRecDepth 20000
set_option maxHeartbeats 4000000
attribute [local irreducible] OS LSr ODS CS YS
section
variable {L : RL}
theorem mark_eq (s : W) : Xp.mark s = match cp1 36 s with
    | (t, true) => some (none, t)
    | (_, false) => if (na s).2.2 then some (some (na s).1, (na s).2.1) else none := by
  cases s with
  | nil => rfl
  | cons c t =>
    rw [Xp.mark]
    by_cases h : c = 36
    · have e : cp1 36 (c :: t) = (t, true) := if_pos h
      rw [if_pos h, e]
    · have e : cp1 36 (c :: t) = (c :: t, false) := if_neg h
      rw [if_neg h, e]
      simp only []
      by_cases h2 : c = 123
      · have e : na (c :: t) = (Xp.hd 125 t, tl 125 t, fd 125 t && Go.Xp.nm (Xp.hd 125 t)) := by
          unfold na; rw [show cp1 123 (c :: t) = (t, true) from if_pos h2]
        rw [if_pos h2, e, Bool.and_comm]
        rfl
      · have e : na (c :: t) = ((c :: t).takeWhile ofN, (c :: t).drop ((c :: t).takeWhile ofN).length, Go.Xp.nm ((c :: t).takeWhile ofN)) := by
          unfold na; rw [show cp1 123 (c :: t) = (c :: t, false) from if_neg h2]
        rw [if_neg h2, e]
/-- What a $ tells, told. -/
def mkV (look : W → Option W) (s : W) : Value := match Xp.mark s with
  | none => .tuple #[str [], str [], .int .i64 4]
  | some (none, b) => .tuple #[str [36], str b, .int .i64 0]
  | some (some x, b) => match look x with
    | none => .tuple #[str [], str [], .int .i64 63]
    | some w => .tuple #[str w, str b, .int .i64 0]
abbrev clo (r6 r3 : Nat) : Value := .func (.func 14) #[] #[ptr r6, ptr r3]
theorem mark_ct {r6 r3 : Nat} {v : Value} {l : List (W × W)} {F : RL} (s : W) (hs : s.length ≤ 1000000) (hV : VR r6 r3 v l F L) (hv : SV 2 F v l.length (fl l)) (hl : l.length * 32 ≤ 140737488355328) :
    CS Tryz.prog 23 [str s, clo r6 r3] L fun u L' => u = mkV (Xp.look l) s ∧ VR r6 r3 v l F L' := by
  unfold mkV
  rw [mark_eq]
  refine CS.mk (fn := Tryz.f23) rfl rfl rfl rfl ?_
  refine yG ?_
  refine OS.call noGo rfl (fun _ => rfl) ((CutPrefix_ct s 36 (by omega)).mono ?_)
  rintro u L2 ⟨rfl, hL⟩
  rw [hL]
  clear hL
  rcases hq : cp1 36 s with ⟨t, b⟩
  cases b with
  | true =>
    refine ⟨_, rfl, ?_⟩
    refine yG ?_
    exact ⟨rfl, hV⟩
  | false =>
    refine ⟨_, rfl, ?_⟩
    refine yG ?_
    refine OS.call noGo rfl (fun _ => rfl) ((nameAhead_ct s hs).mono ?_)
    rintro u L2 ⟨rfl, hL⟩
    rw [hL]
    clear hL
    obtain ⟨x, b, c⟩ := na s
    cases c with
    | false =>
      refine ⟨_, rfl, ?_⟩
      refine yG ?_
      exact ⟨rfl, hV⟩
    | true =>
      refine ⟨_, rfl, ?_⟩
      refine yG ?_
      refine OS.call noGo rfl (fun _ => rfl) ((told_ct x hV hv hl).mono ?_)
      rintro u L2 ⟨rfl, hV2⟩
      simp only [if_true]
      cases hlk : Xp.look l x with
      | none =>
        refine ⟨_, rfl, ?_⟩
        refine yG ?_
        exact ⟨rfl, hV2⟩
      | some w =>
        refine ⟨_, rfl, ?_⟩
        refine yG ?_
        exact ⟨rfl, hV2⟩
theorem BE.split {rp : Nat} {bs : W} {o : Bool} {F L : RL} (h : BE rp bs o F L) : ∃ C, L = C ++ F ∧ ∀ G, BE rp bs o G (C ++ G) := by
  rcases h with ⟨h0, p, hp, rfl⟩ | ⟨h0, r, rfl⟩
  · exact ⟨[(rp, qRow p (.slice none 0 0) o)], rfl, fun G => .inl ⟨h0, p, hp, rfl⟩⟩
  · exact ⟨[(r, .cells 5 (byteCells bs)), (rp, qRow (ptr rp) (.slice (some ⟨r, 0, none⟩) bs.length openCap) o)], rfl, fun G => .inr ⟨h0, r, rfl⟩⟩
/-- What is kept of what came so far. -/
structure OB (acc bs : W) (o : Bool) : Prop where
  len : bs.length ≤ 400
  all : o = false → bs = acc
  over : o = true → 400 < acc.length
theorem OB.add {acc bs : W} {o : Bool} (h : OB acc bs o) (t : W) : OB (acc ++ t) (if (o || decide (400 < bs.length + t.length)) then bs else bs ++ t) (o || decide (400 < bs.length + t.length)) := by
  have h1 := h.len
  cases o with
  | true =>
    have := h.over rfl
    exact ⟨by simpa using h1, fun h => by simp at h, fun _ => by simp; omega⟩
  | false =>
    obtain rfl := h.all rfl
    by_cases hc : 400 < bs.length + t.length
    · rw [decide_eq_true hc]
      exact ⟨by simpa using h1, fun h => by simp at h, fun _ => by simp; omega⟩
    · rw [decide_eq_false hc]
      exact ⟨by simp; omega, fun _ => by simp, fun h => by simp at h⟩
def putV : Except Nat W → Value
  | .ok o => .tuple #[str o, .int .i64 0]
  | .error e => .tuple #[str [], .int .i64 (e : Int)]
theorem hd_le (c : UInt8) (s : W) : (Xp.hd c s).length ≤ s.length := by
  unfold Xp.hd
  have := congrArg List.length (List.takeWhile_append_dropWhile (p := (· != c)) (l := s))
  rw [List.length_append] at this; omega
theorem tl_le (c : UInt8) (s : W) : (tl c s).length ≤ s.length := by unfold tl; simp
theorem tl_lt {c : UInt8} {s : W} (h : fd c s = true) : (tl c s).length < s.length := by
  have := of_decide_eq_true (show decide ((Xp.hd c s).length < s.length) = true from h)
  unfold tl; simp; omega
def left (rest : W) (more : Bool) : Nat := if more then rest.length + 1 else 0
theorem put_ct {r6 r3 : Nat} {v : Value} {l : List (W × W)} {F : RL} (s : W) (hs : s.length ≤ 1000000) (hV : VR r6 r3 v l F L) (hv : SV 2 F v l.length (fl l)) (hl : l.length * 32 ≤ 140737488355328) (hw : ∀ p, p ∈ l → p.2.length ≤ 140737488355328) :
    CS Tryz.prog 13 [str s, clo r6 r3] L fun u L' => u = putV (subst (Xp.look l) s) ∧ Sub F L' := by
  have hD0 := sub_D (Xp.look l) s []
  have hpre : pre [] (sub (Xp.look l) (s.length + 1) s) = sub (Xp.look l) (s.length + 1) s := by
    cases sub (Xp.look l) (s.length + 1) s <;> rfl
  rw [hpre, List.nil_append] at hD0
  have hd0 := hd_le 36 s
  have htl0 := tl_le 36 s
  refine CS.mk (fn := Tryz.f13) rfl rfl rfl rfl ?_
  refine yG ?_
  refine OS.fresh rfl (e_new (fun _ => rfl) rfl) (fun _ => rfl) (fun rp => ?_)
  refine yG ?_
  refine OS.call noGo rfl (fun _ => rfl) ((Cut_ct s 36 (by omega)).mono ?_)
  rintro u L2 ⟨rfl, hL⟩
  rw [hL]
  clear hL
  have hB0 : BE rp [] false L ((rp, qRow (.pointer none) (.slice none 0 0) false) :: L) := .inl ⟨rfl, _, .inl rfl, rfl⟩
  have hO0 : OB [] [] false := ⟨by simp, fun _ => rfl, fun h => by cases h⟩
  refine ⟨_, rfl, ?_⟩
  refine yG ?_
  refine OS.call noGo rfl (fun _ => rfl) ((add_ct (Xp.hd 36 s) hB0 (by simp) (by omega)).mono ?_)
  rintro u L1 hB1
  have hO1 := hO0.add (Xp.hd 36 s)
  rw [List.nil_append] at hO1
  refine yG ?_
  refine LS.loopJ [1, 6, 8, 9] (fun q a L' => ∃ (rest : W) (more : Bool) (acc bs : W) (o : Bool) (LV : RL), q = left rest more ∧ rest.length ≤ 1000000 ∧ sub (Xp.look l) (s.length + 1) s = D (Xp.look l) rest more acc ∧ OB acc bs o ∧ BE rp bs o LV L' ∧ VR r6 r3 v l F LV ∧ a = [.chan none, clo r6 r3, .chan none, .chan none, .chan none, .chan none, ptr rp, .chan none, str rest, .bool more, .chan none, .chan none, .chan none, .chan none, .chan none, .chan none, .chan none, .chan none, .chan none, .chan none, .chan none, .chan none, .chan none, .chan none, .chan none, .chan none, .chan none, .chan none, .chan none, .chan none, .chan none, .chan none, .chan none, .chan none, .chan none, .chan none, .chan none, .chan none, .chan none, .chan none, .chan none, .chan none, .chan none, .chan none, .chan none, .chan none]) (n := left (tl 36 s) (fd 36 s)) rfl ⟨_, _, _, _, _, _, rfl, by omega, hD0, hO1, hB1, hV, rfl⟩ ?_
  rintro q a L' ⟨rest, more, acc, bs, o, LV, rfl, hrl, hD, hO, hB, hV1, rfl⟩
  have hlen := hO.len
  cases more with
  | false =>
    have hsub : subst (Xp.look l) s = if 400 < acc.length then .error 40 else .ok acc := by
      unfold subst; rw [hD]; rfl
    obtain ⟨i, x, y, hi, _⟩ := hB.row
    have hm : (rp, qRow x y o) ∈ L' := List.mem_of_getElem? hi
    obtain ⟨C, rfl, _⟩ := hV1.split
    obtain ⟨B, hBe, _⟩ := hB.split
    refine yG ?_
    refine LS.exit ?_
    cases o with
    | true =>
      rw [hsub, if_pos (hO.over rfl)]
      refine yG ?_
      refine OS.read rfl (e_loadm hm rfl rfl rfl (part_one rfl rfl)) rfl ?_
      refine yG ?_
      exact ⟨rfl, hBe ▸ Sub.sums2 (B ++ C) fun f => by simp; omega⟩
    | false =>
      obtain rfl := hO.all rfl
      rw [hsub, if_neg (by omega)]
      refine yG ?_
      refine OS.read rfl (e_loadm hm rfl rfl rfl (part_one rfl rfl)) rfl ?_
      refine yG ?_
      refine OS.call noGo rfl (fun _ => rfl) ((StringE_ct hB (by omega)).mono ?_)
      rintro u L3 ⟨rfl, Z, rfl⟩
      refine yG ?_
      exact ⟨rfl, Sub.sums2 (Z ++ C) fun f => by simp; omega⟩
  | true =>
    obtain ⟨B, rfl, hBB⟩ := hB.split
    obtain ⟨C, rfl, hCC⟩ := hV1.split
    refine yG ?_
    refine OS.sub (Sub.sums (A := C ++ (B ++ F)) fun f => by simp; omega) ?_
    refine OS.call noGo rfl (fun _ => rfl) ((mark_ct rest (by omega) (hCC (B ++ F)) (hv.mono fun p hp => List.mem_append_right _ hp) hl).mono ?_)
    rintro u L3 ⟨rfl, hV3⟩
    obtain ⟨C3, rfl, hC3⟩ := hV3.split
    have hV4 := hC3 F
    rw [D, if_pos rfl] at hD
    cases hm : Xp.mark rest with
    | none =>
      rw [hm] at hD
      have hsub : subst (Xp.look l) s = .error 4 := by unfold subst; rw [hD]
      have e : mkV (Xp.look l) rest = .tuple #[str [], str [], .int .i64 4] := by unfold mkV; rw [hm]
      rw [hsub, e]
      refine ⟨_, rfl, ?_⟩
      refine yG ?_
      exact ⟨rfl, Sub.sums2 (C3 ++ B) fun f => by simp; omega⟩
    | some xb =>
      obtain ⟨x, b⟩ := xb
      rw [hm] at hD
      have hbl := mark_len hm
      have hb1 := hd_le 36 b
      have hb2 := tl_le 36 b
      have hmeas : left (tl 36 b) (fd 36 b) < left rest true := by
        unfold left
        rcases tf (fd 36 b) with h | h
        · have := tl_lt h
          rw [h]; simp; omega
        · rw [h]; simp
      cases x with
      | none =>
        simp only [] at hD
        rw [sub_D] at hD
        have e : mkV (Xp.look l) rest = .tuple #[str [36], str b, .int .i64 0] := by unfold mkV; rw [hm]
        rw [e]
        refine ⟨_, rfl, ?_⟩
        refine yG ?_
        refine OS.sub (Sub.sums (A := B ++ (C3 ++ F)) fun f => by simp; omega) ?_
        refine OS.call noGo rfl (fun _ => rfl) ((add_ct [36] (hBB (C3 ++ F)) hlen (by simp)).mono ?_)
        rintro u L4 hB4
        have hO4 := hO.add [36]
        refine yG ?_
        refine OS.call noGo rfl (fun _ => rfl) ((Cut_ct b 36 (by omega)).mono ?_)
        rintro u L2 ⟨rfl, hL⟩
        rw [hL]
        clear hL
        refine ⟨_, rfl, ?_⟩
        refine yG ?_
        refine OS.call noGo rfl (fun _ => rfl) ((add_ct (Xp.hd 36 b) hB4 hO4.len (by omega)).mono ?_)
        rintro u L5 hB5
        have hO5 := hO4.add (Xp.hd 36 b)
        refine yG ?_
        exact ⟨_, hmeas, _, _, _, _, _, _, rfl, by omega, hD, hO5, hB5, hV4, rfl⟩
      | some x =>
        simp only [] at hD
        cases hlk : Xp.look l x with
        | none =>
          rw [hlk] at hD
          have hsub : subst (Xp.look l) s = .error 63 := by unfold subst; rw [hD]
          have e : mkV (Xp.look l) rest = .tuple #[str [], str [], .int .i64 63] := by unfold mkV; rw [hm]; simp only [hlk]
          rw [hsub, e]
          refine ⟨_, rfl, ?_⟩
          refine yG ?_
          exact ⟨rfl, Sub.sums2 (C3 ++ B) fun f => by simp; omega⟩
        | some w =>
          rw [hlk] at hD
          simp only [] at hD
          rw [sub_D] at hD
          have hwl := hw _ (look_mem hlk)
          have e : mkV (Xp.look l) rest = .tuple #[str w, str b, .int .i64 0] := by unfold mkV; rw [hm]; simp only [hlk]
          rw [e]
          refine ⟨_, rfl, ?_⟩
          refine yG ?_
          refine OS.sub (Sub.sums (A := B ++ (C3 ++ F)) fun f => by simp; omega) ?_
          refine OS.call noGo rfl (fun _ => rfl) ((add_ct w (hBB (C3 ++ F)) hlen hwl).mono ?_)
          rintro u L4 hB4
          have hO4 := hO.add w
          refine yG ?_
          refine OS.call noGo rfl (fun _ => rfl) ((Cut_ct b 36 (by omega)).mono ?_)
          rintro u L2 ⟨rfl, hL⟩
          rw [hL]
          clear hL
          refine ⟨_, rfl, ?_⟩
          refine yG ?_
          refine OS.call noGo rfl (fun _ => rfl) ((add_ct (Xp.hd 36 b) hB4 hO4.len (by omega)).mono ?_)
          rintro u L5 hB5
          have hO5 := hO4.add (Xp.hd 36 b)
          refine yG ?_
          exact ⟨_, hmeas, _, _, _, _, _, _, rfl, by omega, hD, hO5, hB5, hV4, rfl⟩
theorem Subst_ct {v : Value} {l : List (W × W)} (s : W) (hs : s.length ≤ 1000000) (hv : SV 2 L v l.length (fl l)) (hl : l.length * 32 ≤ 140737488355328) (hw : ∀ p, p ∈ l → p.2.length ≤ 140737488355328) :
    CS Tryz.prog 6 [str s, v] L fun u L' => u = putV (subst (Xp.look l) s) ∧ L' = L := by
  suffices h : CS Tryz.prog 6 [str s, v] L fun u L' => u = putV (subst (Xp.look l) s) ∧ Sub L L' from h.less fun u L' ⟨h1, h2⟩ => ⟨L, h2, h1, rfl⟩
  refine CS.mk (fn := Tryz.f6) rfl rfl rfl rfl ?_
  refine yG ?_
  refine OS.fresh rfl (e_box rfl rfl hv.one rfl) (fun _ => rfl) (fun r3 => ?_)
  refine yG ?_
  refine OS.fresh rfl (e_new (fun _ => rfl) rfl) (fun _ => rfl) (fun r6 => ?_)
  refine yG ?_
  refine OS.call noGo rfl (fun _ => rfl) ((put_ct s hs (.inl rfl) hv hl hw).mono ?_)
  rintro u L' ⟨rfl, hS⟩
  cases subst (Xp.look l) s with
  | ok o =>
    refine ⟨_, rfl, ?_⟩
    refine yG ?_
    exact ⟨rfl, hS⟩
  | error e =>
    refine ⟨_, rfl, ?_⟩
    refine yG ?_
    exact ⟨rfl, hS⟩
end
end Go.Proofs.YtmdcfnnoeimakaaGreatDoor.E

/- Layer 13: the name ahead; what is told of a name. -/
import Derived.Test.YtmdcfnnoeimakaaGreatDoorFXe
namespace Go.Proofs.YtmdcfnnoeimakaaGreatDoor.E
open Go.Proofs.YtmdcfnnoeimakaaGreatDoor
open Go.Am Go.Xp
set_option linter.unusedVariables false
set_option linter.unusedSimpArgs false
set_option maxRecDepth 20000
set_option maxHeartbeats 4000000
attribute [local irreducible] OS LSr ODS CS YS
section
variable {L : RL}
/-- The name ahead, what is behind it, and whether it is one. -/
def na (s : W) : W × W × Bool := match cp1 123 s with
  | (t, true) => (Xp.hd 125 t, tl 125 t, fd 125 t && Go.Xp.nm (Xp.hd 125 t))
  | (_, false) => (s.takeWhile ofN, s.drop (s.takeWhile ofN).length, Go.Xp.nm (s.takeWhile ofN))
theorem nameAhead_ct (s : W) (hs : s.length ≤ 1000000) : CS Tryz.prog 35 [str s] L fun v L' => v = .tuple #[str (na s).1, str (na s).2.1, .bool (na s).2.2] ∧ L' = L := by
  refine CS.mk (fn := Tryz.f35) rfl rfl rfl rfl ?_
  refine yG ?_
  refine OS.call noGo rfl (fun _ => rfl) ((CutPrefix_ct s 123 (by omega)).mono ?_)
  rintro v L2 ⟨rfl, hL⟩
  rw [hL]
  clear hL
  refine ⟨_, rfl, ?_⟩
  rcases hq : cp1 123 s with ⟨t, b⟩
  cases b with
  | true =>
    have htl : t.length ≤ s.length := by
      cases s with
      | nil => cases hq
      | cons d s =>
        by_cases h : d = 123
        · have e : cp1 123 (d :: s) = (s, true) := if_pos h
          rw [e] at hq; cases hq; simp
        · have e : cp1 123 (d :: s) = (d :: s, false) := if_neg h
          rw [e] at hq; cases hq
    have hhd : (Xp.hd 125 t).length ≤ t.length := by
      unfold Xp.hd
      have := congrArg List.length (List.takeWhile_append_dropWhile (p := (· != (125 : UInt8))) (l := t))
      rw [List.length_append] at this; omega
    have e : na s = (Xp.hd 125 t, tl 125 t, fd 125 t && Go.Xp.nm (Xp.hd 125 t)) := by unfold na; rw [hq]
    rw [e]
    refine yG ?_
    refine OS.call noGo rfl (fun _ => rfl) ((Cut_ct t 125 (by omega)).mono ?_)
    rintro v L' ⟨rfl, rfl⟩
    refine ⟨_, rfl, ?_⟩
    rcases tf (fd 125 t) with h1 | h1
    · rw [h1]
      refine yG ?_
      refine OS.call noGo rfl (fun _ => rfl) ((Name_ct (Xp.hd 125 t) (by omega)).mono ?_)
      rintro v L' ⟨rfl, rfl⟩
      refine ⟨_, rfl, ?_⟩
      refine yG ?_
      exact ⟨rfl, rfl⟩
    · rw [h1]
      refine yG ?_
      exact ⟨rfl, rfl⟩
  | false =>
    have e : na s = (s.takeWhile ofN, s.drop (s.takeWhile ofN).length, Go.Xp.nm (s.takeWhile ofN)) := by unfold na; rw [hq]
    rw [e]
    refine yG ?_
    have fin : ∀ k : Nat, k ≤ s.length → (s.take k).all ofN = true → (∀ c, s[k]? = some c → ofN c = false) → s.takeWhile ofN = s.take k := fun k hk ha hn => by
      have h := take_all (p := ofN) (s := s.take k) (t := s.drop k) ha (fun c hc => hn c (by rw [List.head?_drop] at hc; exact hc))
      rwa [List.take_append_drop] at h
    refine LS.loopJ [0, 10] (fun q a L' => ∃ k : Nat, q = s.length - k ∧ k ≤ s.length ∧ (s.take k).all ofN = true ∧ L' = L ∧ a = [str s, .chan none, .chan none, .chan none, .chan none, .chan none, .chan none, .chan none, .chan none, .chan none, .int .i64 (k : Nat), .chan none, .chan none, .chan none, .chan none, .chan none, .chan none, .chan none, .chan none, .chan none, .chan none, .chan none, .chan none, .chan none, .chan none, .chan none, .chan none, .chan none, .chan none, .chan none, .chan none, .chan none, .chan none, .chan none, .chan none, .chan none, .chan none, .chan none, .chan none, .chan none, .chan none, .chan none, .chan none, .chan none, .chan none, .chan none, .chan none, .chan none, .chan none, .chan none, .chan none, .chan none]) (n := s.length) rfl ⟨0, rfl, by omega, rfl, rfl, rfl⟩ ?_
    rintro q a L' ⟨k, rfl, hk, hall, hL, rfl⟩
    rw [hL]
    clear hL
    have t1 : (s.drop 0).take (k - 0) = s.take k := by simp
    have t2 : (s.drop k).take (s.length - k) = s.drop k := List.take_of_length_le (by simp)
    by_cases hc : k < s.length
    · have b1 : (!ileB ((s.length : Nat) : Int) (k : Nat)) = true := by rw [ileB_eq]; simp; omega
      obtain ⟨c, hcb⟩ : ∃ c, s[k]? = some c := ⟨_, List.getElem?_eq_getElem hc⟩
      refine yG ?_
      refine OS.call noGo rfl (fun _ => rfl) ((ofNameE_ct c).mono ?_)
      rintro v L2 ⟨rfl, hL⟩
      rw [hL]
      clear hL
      refine ⟨_, rfl, ?_⟩
      rcases tf (ofN c) with h | h
      · rw [h]
        refine yG ?_
        exact ⟨s.length - (k + 1), by omega, k + 1, rfl, by omega, by rw [take_one hcb, List.all_append, hall]; simp [h], rfl, rfl⟩
      · rw [h]
        have ht := fin k hk hall (fun c' hc' => by rw [hcb] at hc'; cases hc'; exact h)
        have hkl : (s.take k).length = k := by simp; omega
        rw [ht, hkl]
        refine yG ?_
        refine LS.exit ?_
        repeat refine LS.seq ?_
        refine LS.drawn noGo mixed [(0, false), (1, false), (2, false), (3, false), (4, false), (5, false), (6, false), (7, false), (8, false), (9, true), (10, false), (11, false), (12, false)] rfl rfl (by kernel_rfl) ?_
        refine yG ?_
        refine ODS.pure rfl rfl (e_part (s := s) (l := 0) (u := k) rfl rfl rfl rfl rfl bound_nat rfl (by omega) (by omega)) rfl ?_
        refine yG ?_
        refine ODS.pure rfl rfl (e_part (s := s) (l := k) (u := s.length) rfl rfl rfl rfl bound_nat rfl rfl (by omega) (by omega)) rfl ?_
        refine yG ?_
        refine ODS.pure rfl rfl (e_part (s := s) (l := 0) (u := k) rfl rfl rfl rfl rfl bound_nat rfl (by omega) (by omega)) rfl ?_
        rw [t1, t2]
        refine ODS.call rfl rfl (fun _ => rfl) ((Name_ct (s.take k) (by simp; omega)).mono ?_)
        rintro v L' ⟨rfl, rfl⟩
        refine ⟨_, rfl, Keep.nil, ?_⟩
        refine yG ?_
        exact ⟨rfl, rfl⟩
    · have b1 : (!ileB ((s.length : Nat) : Int) (k : Nat)) = false := by rw [ileB_eq]; simp; omega
      have ht := fin k hk hall (fun c' hc' => by have := (List.getElem?_eq_some_iff.1 hc').1; omega)
      have hkl : (s.take k).length = k := by simp; omega
      rw [ht, hkl]
      refine yG ?_
      refine LS.exit ?_
      repeat refine LS.seq ?_
      refine LS.drawn noGo mixed [(0, false), (1, false), (2, false), (3, false), (4, false), (5, false), (6, false), (7, false), (8, false), (9, true), (10, false), (11, false), (12, false)] rfl rfl (by kernel_rfl) ?_
      refine yG ?_
      refine ODS.pure rfl rfl (e_part (s := s) (l := 0) (u := k) rfl rfl rfl rfl rfl bound_nat rfl (by omega) (by omega)) rfl ?_
      refine yG ?_
      refine ODS.pure rfl rfl (e_part (s := s) (l := k) (u := s.length) rfl rfl rfl rfl bound_nat rfl rfl (by omega) (by omega)) rfl ?_
      refine yG ?_
      refine ODS.pure rfl rfl (e_part (s := s) (l := 0) (u := k) rfl rfl rfl rfl rfl bound_nat rfl (by omega) (by omega)) rfl ?_
      rw [t1, t2]
      refine ODS.call rfl rfl (fun _ => rfl) ((Name_ct (s.take k) (by simp; omega)).mono ?_)
      rintro v L' ⟨rfl, rfl⟩
      refine ⟨_, rfl, Keep.nil, ?_⟩
      refine yG ?_
      exact ⟨rfl, rfl⟩
/-- The name's value, and whether there is one. -/
abbrev seRow (p : Value) : ARow := .cells 52 [p]
abbrev vsRow (v : Value) : ARow := .cells 26 [v]
/-- What a look-up hands on: nothing gone through yet, or a scope of the variables. -/
def VR (r6 r3 : Nat) (v : Value) (l : List (W × W)) (F L : RL) : Prop :=
  L = (r6, seRow (.pointer none)) :: (r3, vsRow v) :: F ∨ ∃ rs, SR rs l ((r6, seRow (ptr rs)) :: (r3, vsRow v) :: F) L
theorem VR.split {r6 r3 : Nat} {v : Value} {l : List (W × W)} {F L : RL} (h : VR r6 r3 v l F L) : ∃ C, L = C ++ F ∧ ∀ G, VR r6 r3 v l G (C ++ G) := by
  rcases h with rfl | ⟨rs, h⟩
  · exact ⟨[(r6, seRow (.pointer none)), (r3, vsRow v)], rfl, fun G => .inl rfl⟩
  · obtain ⟨C, rfl, hC⟩ := h.split
    refine ⟨C ++ [(r6, seRow (ptr rs)), (r3, vsRow v)], by simp, fun G => .inr ⟨rs, ?_⟩⟩
    have := hC ((r6, seRow (ptr rs)) :: (r3, vsRow v) :: G)
    simpa using this
theorem VR.mem {r6 r3 : Nat} {v : Value} {l : List (W × W)} {F L : RL} (h : VR r6 r3 v l F L) : ∀ p, p ∈ F → p ∈ L := by
  obtain ⟨C, rfl, _⟩ := h.split
  exact fun p hp => List.mem_append_right _ hp
theorem told_ct {r6 r3 : Nat} {v : Value} {l : List (W × W)} {F : RL} (n : W) (hV : VR r6 r3 v l F L) (hv : SV 2 F v l.length (fl l)) (hl : l.length * 32 ≤ 140737488355328) :
    CS Tryz.prog 14 [str n, ptr r6, ptr r3] L fun u L' => u = .tuple #[str ((Xp.look l n).getD []), .bool (Xp.look l n).isSome] ∧ VR r6 r3 v l F L' := by
  rcases hV with rfl | ⟨rs, hS⟩
  · refine CS.mk (fn := Tryz.f14) rfl rfl rfl rfl ?_
    refine yG ?_
    refine OS.call noGo rfl (fun _ => rfl) ((scopeOf_ct (hv.cons.cons) hl).mono ?_)
    rintro u L1 ⟨rs, rfl, hS⟩
    obtain ⟨C, rfl, hC⟩ := hS.split
    refine ⟨_, rfl, ?_⟩
    refine OS.sub (Sub.sums (A := (r6, seRow (.pointer none)) :: (C ++ ((r3, vsRow v) :: F))) fun f => by simp; omega) ?_
    refine OS.write rfl (e_store 0 rfl rfl rfl rfl rfl rfl rfl rfl) rfl ?_
    have hS2 := hC ((r6, seRow (ptr rs)) :: (r3, vsRow v) :: F)
    refine OS.sub (Sub.sums (A := C ++ ((r6, seRow (ptr rs)) :: (r3, vsRow v) :: F)) fun f => by simp [seRow]; omega) ?_
    refine yG ?_
    refine OS.read rfl (e_loadm (List.mem_append_right _ (List.mem_cons_self ..)) rfl rfl rfl (part_one rfl rfl)) rfl ?_
    refine yG ?_
    refine OS.call noGo rfl (fun _ => rfl) ((value_ct n hS2).mono ?_)
    rintro u L' ⟨rfl, rfl⟩
    refine yG ?_
    exact ⟨rfl, .inr ⟨rs, hS2⟩⟩
  · have m6 : (r6, seRow (ptr rs)) ∈ L := hS.mem _ (List.mem_cons_self ..)
    refine CS.mk (fn := Tryz.f14) rfl rfl rfl rfl ?_
    refine yG ?_
    refine OS.read rfl (e_loadm m6 rfl rfl rfl (part_one rfl rfl)) rfl ?_
    refine yG ?_
    refine OS.read rfl (e_loadm m6 rfl rfl rfl (part_one rfl rfl)) rfl ?_
    refine yG ?_
    refine OS.call noGo rfl (fun _ => rfl) ((value_ct n hS).mono ?_)
    rintro u L' ⟨rfl, rfl⟩
    refine yG ?_
    exact ⟨rfl, .inr ⟨rs, hS⟩⟩
end
end Go.Proofs.YtmdcfnnoeimakaaGreatDoor.E

import Derived.Test.YtllcbjaajffaeaaGreatDoorQsM
import Derived.Test.YtllcbjaajffaeaaGreatDoorQnM
import Derived.Test.YtllcbjaajffaeaaGreatDoorQgM
import Derived.Test.YtllcbjaajffaeaaGreatDoorOpenU
namespace Go.Proofs.YtllcbjaajffaeaaGreatDoor
open Go.Am Go.Pd
set_option linter.unusedVariables false
set_option linter.unusedSimpArgs false
set_option maxRecDepth 20000
set_option maxHeartbeats 8000000
attribute [local irreducible] OS LSr ODS CS YS
theorem docV_form {M : RL} {v : Value} {d : Dc} (h : DocV M v d) : ∃ A c A' c', v = .agg #[.slice A d.head.length c, .slice A' d.secs.length c'] := by
  obtain ⟨hv, sv, hcs, scs, rfl, h2, h3, h4, h5⟩ := h
  obtain ⟨A, c, rfl⟩ := h2.form
  obtain ⟨A', c', rfl⟩ := h4.form
  exact ⟨_, _, _, _, rfl⟩
theorem its_u {l : List It} (h : U.ItsU l) : ItsG l ∧ ItsN l ∧ ItsB l ∧ (∀ x, x ∈ l → ItT x) := by
  obtain ⟨h1, h2⟩ := h
  refine ⟨⟨by omega, fun x hx => by have := (h2 x hx).2.1; omega⟩, ⟨by omega, fun x hx => by have := (h2 x hx).2.1; omega⟩, ⟨by omega, fun x hx => ⟨by have := (h2 x hx).2.1; simp; omega, fun w hw => ?_⟩⟩, fun x hx => ⟨by have := (h2 x hx).2.1; omega, fun w hw => ?_⟩⟩
  all_goals
    rcases List.mem_cons.1 hw with rfl | hw
    · have := (h2 x hx).1; omega
    · have := (h2 x hx).2.2 w hw; omega
theorem doc_u {d : Dc} (h : U.DocU d) : DocG d ∧ DocN d ∧ DocB d ∧ DocK d ∧ DocT d := by
  obtain ⟨h1, h2, h3⟩ := h
  have k1 := its_u h1
  refine ⟨⟨k1.1, by omega, fun y hy => (its_u (h3 y hy).2).1⟩, ⟨k1.2.1, by omega, fun y hy => (its_u (h3 y hy).2).2.1⟩, ⟨k1.2.2.1, by omega, fun y hy => ⟨(its_u (h3 y hy).2).2.2.1, by have := (h3 y hy).1; omega⟩⟩, ⟨by have := h1.1; omega, by omega, fun y hy => by have := (h3 y hy).2.1; omega⟩, ⟨by have := h1.1; omega, k1.2.2.2, by omega, fun y hy => ⟨by have := (h3 y hy).1; omega, by have := (h3 y hy).2.1; omega, (its_u (h3 y hy).2).2.2.2⟩⟩⟩
theorem sameD_self (d : Dc) : sameD true d d = true := by
  have h1 : ∀ l : List It, sameI true l l = true := fun l => by
    induction l with
    | nil => rfl
    | cons x l ih => simp [sameI, ih]
  have h2 : ∀ l : List Se, sameS true l l = true := fun l => by
    induction l with
    | nil => rfl
    | cons x l ih => simp [sameS, ih, h1]
  simp [sameD, h1, h2]
theorem descPrints_ct {F M : RL} {g : Gn} (hG : GL g F) {D : Dc} {v : Value} (hV : DocA M v D) (hM : ∀ p, p ∈ M → p ∈ F) (hU : U.DocU D) : CS Tryz.prog 4 [v] F fun v L' => v = .bool true := by
  obtain ⟨A, c, B, c', rfl⟩ := hV.form
  obtain ⟨hDG, hDN, hDB, hDK, hDT⟩ := doc_u hU
  refine CS.mk (fn := Tryz.f4) rfl rfl rfl rfl ?_
  refine yG ?_
  refine OS.fresh rfl (e_new (fun _ => rfl) rfl) (fun _ => rfl) (fun r1 => ?_)
  show OS _ _ _ _ ((r1, ARow.cells tDd [.slice A D.head.length c, .slice B D.secs.length c']) :: _) _
  refine yG ?_
  refine OS.call noGo rfl (fun _ => rfl) ((large12_ct hV (fun p hp => List.mem_cons_of_mem _ (hM p hp)) hDN).mono ?_)
  rintro u L' ⟨⟨b, rfl⟩, rfl⟩
  rcases tf b with hb | hb <;> rw [hb]
  · refine ⟨_, rfl, ?_⟩
    refine yG ?_
    refine OS.call noGo rfl (fun _ => rfl) ((awake_ct (hG.mono fun p hp => List.mem_cons_of_mem _ hp)).mono ?_)
    rintro v L' ⟨rfl, _⟩
    refine ⟨_, rfl, ?_⟩
    refine yG ?_
    rfl
  refine ⟨_, rfl, ?_⟩
  refine yG ?_
  refine OS.call noGo rfl (fun _ => rfl) ((given_ct hV (fun p hp => List.mem_cons_of_mem _ (hM p hp)) hDG).mono ?_)
  rintro u L' ⟨Z1, rfl, hVG⟩
  obtain ⟨A1, c1, B1, c1', rfl⟩ := docV_form hVG
  refine ⟨_, rfl, ?_⟩
  refine yG ?_
  refine OS.fresh rfl (e_new (fun _ => rfl) rfl) (fun _ => rfl) (fun r3 => ?_)
  show OS _ _ _ _ ((r3, ARow.cells tD [.slice none 0 0, .slice none 0 0]) :: _) _
  refine yG ?_
  refine OS.call noGo rfl (fun _ => rfl) ((Print_ct (hG.mono fun p hp => by simp [hp]) (hVG.mono fun p hp => by simp [hp]) hDB).mono ?_)
  rintro u L' ⟨hp, Z2, rfl⟩
  obtain ⟨s, e, rfl, hE⟩ : ∃ (s : W) (e : Nat), u = .tuple #[str s, .int .i64 (e : Nat)] ∧ ∀ u2 : Value, (match printD chk joinW D with
    | .error k => u2 = .tuple #[str [], .int .i64 (k : Nat)]
    | .ok (_, s) => u2 = .tuple #[str s, .int .i64 0]) → u2 = .tuple #[str s, .int .i64 (e : Nat)] := by
    rw [print_same] at hp
    cases hpd : printD chk joinW D with
    | error k => rw [hpd] at hp; exact ⟨[], k, hp.1, fun u2 h => h⟩
    | ok q => rw [hpd] at hp; exact ⟨q.2, 0, hp, fun u2 h => h⟩
  clear hp
  refine ⟨_, rfl, ?_⟩
  refine OS.sub (Sub.sums (A := (r3, ARow.cells tD [.slice A1 D.head.length c1, .slice B1 D.secs.length c1']) :: (r1, ARow.cells tDd [.slice A D.head.length c, .slice B D.secs.length c']) :: ((Z2 ++ Z1) ++ F)) fun f => by simp <;> omega) ?_
  have hG2 : GL g ((Z2 ++ Z1) ++ F) := hG.mono fun p hp => List.mem_append_right _ hp
  have hV2 : DocA ((Z2 ++ Z1) ++ F) (.agg #[.slice A D.head.length c, .slice B D.secs.length c']) D := hV.mono fun p hp => List.mem_append_right _ (hM p hp)
  have hVG2 : DocV ((Z2 ++ Z1) ++ F) (.agg #[.slice A1 D.head.length c1, .slice B1 D.secs.length c1']) D := hVG.mono fun p hp => by simp [hp]
  clear hG hV hM hVG
  generalize (Z2 ++ Z1) ++ F = L2 at hG2 hV2 hVG2
  refine yG ?_
  refine OS.call noGo rfl (fun _ => rfl) ((refPrint_ct hV2 (fun p hp => List.mem_cons_of_mem _ (List.mem_cons_of_mem _ hp)) hDT).mono ?_)
  rintro u L' ⟨hq, Z3, rfl⟩
  obtain rfl := hE u hq
  refine ⟨_, rfl, ?_⟩
  refine OS.sub (Sub.sums (A := (r3, ARow.cells tD [.slice A1 D.head.length c1, .slice B1 D.secs.length c1']) :: (r1, ARow.cells tDd [.slice A D.head.length c, .slice B D.secs.length c']) :: (Z3 ++ L2)) fun f => by simp <;> omega) ?_
  have hG3 : GL g (Z3 ++ L2) := hG2.mono fun p hp => List.mem_append_right _ hp
  have hV3 : DocA (Z3 ++ L2) (.agg #[.slice A D.head.length c, .slice B D.secs.length c']) D := hV2.mono fun p hp => List.mem_append_right _ hp
  have hVG3 : DocV (Z3 ++ L2) (.agg #[.slice A1 D.head.length c1, .slice B1 D.secs.length c1']) D := hVG2.mono fun p hp => List.mem_append_right _ hp
  clear hG2 hV2 hVG2
  generalize Z3 ++ L2 = L3 at hG3 hV3 hVG3
  have hss : bytesEq s s = true := by rw [beq_bytes]; simp
  have hee : ieqB ((e : Nat) : Int) (e : Nat) = true := by rw [ieqB_eq]; simp
  refine yG ?_
  repeat refine LS.seq ?_
  refine LS.drawn noGo mixed [(0, false), (1, false), (2, false), (3, false), (4, false), (5, false), (6, false), (7, false), (8, false), (9, false), (11, false), (10, true), (12, true), (13, false), (14, false), (15, true), (16, false), (17, false)] rfl rfl (by kernel_rfl) ?_
  refine yG ?_
  refine ODS.call rfl rfl (fun _ => rfl) ((back_ct hVG3.a (fun p hp => List.mem_cons_of_mem _ (List.mem_cons_of_mem _ hp)) hDK).mono ?_)
  rintro u L' ⟨Z4, rfl, hA4⟩
  obtain ⟨A4, c4, B4, d4, rfl⟩ := hA4.form
  refine ⟨_, rfl, ?_, ?_⟩
  · exact (by repeat (first | exact Keep.nil | refine Keep.gone rfl ?_ | refine Keep.cons rfl (e_loadm (r := r1) (List.mem_append_right _ (List.mem_cons_of_mem _ (List.mem_cons_self ..))) rfl rfl rfl rfl) ?_ | refine Keep.cons rfl (e_loadm (r := r3) (List.mem_append_right _ (List.mem_cons_self ..)) rfl rfl rfl rfl) ?_))
  refine ODS.call rfl rfl (fun _ => rfl) ((Same12_ct true hA4 (fun p hp => hp) hV3 (fun p hp => List.mem_append_right _ (List.mem_cons_of_mem _ (List.mem_cons_of_mem _ hp))) hDN).mono ?_)
  rintro u L' ⟨rfl, rfl⟩
  refine ⟨_, rfl, ?_, ?_⟩
  · exact (by repeat (first | exact Keep.nil | refine Keep.gone rfl ?_ | refine Keep.cons rfl (e_loadm (r := r1) (List.mem_append_right _ (List.mem_cons_of_mem _ (List.mem_cons_self ..))) rfl rfl rfl rfl) ?_ | refine Keep.cons rfl (e_loadm (r := r3) (List.mem_append_right _ (List.mem_cons_self ..)) rfl rfl rfl rfl) ?_))
  rw [sameD_self]
  refine yG ?_
  refine ODS.call rfl rfl (fun _ => rfl) ((awake_ct (hG3.mono fun p hp => List.mem_append_right _ (List.mem_cons_of_mem _ (List.mem_cons_of_mem _ hp)))).mono ?_)
  rintro v L' ⟨rfl, _⟩
  refine ⟨_, rfl, ?_, ?_⟩
  · (repeat (first | exact Keep.nil | refine Keep.gone rfl ?_))
  refine yG ?_
  rfl
end Go.Proofs.YtllcbjaajffaeaaGreatDoor

/- Layer 15: the document's Below and Above. -/
import Derived.Test.YteakbbnlkjckhaaGrK
namespace Go.Gp
/-- What was taken in of what one rests on. -/
def RB (M : Nd) (i : Nat) (b : Nat → Bool) : Prop := (∀ k, b k = true → Path M i k) ∧ ∀ k, k ∈ nd M i → b k = true
theorem RB.add {M : Nd} {i x z : Nat} {b : Nat → Bool} (h : RB M i b) (hx : b x = true) (hz : z ∈ nd M x) : RB M i (upb b z) :=
  ⟨fun k hk => by
    rcases upb_inv hk with rfl | hk
    · exact (h.1 x hx).snoc hz
    · exact h.1 k hk, fun k hk => upb_mono (h.2 k hk)⟩
theorem RB.end {M : Nd} {i : Nat} {b : Nat → Bool} (h : RB M i b) (hc : ∀ x, b x = true → ∀ k, k ∈ nd M x → b k = true) (k : Nat) : b k = true ↔ Path M i k := by
  refine ⟨h.1 k, fun hp => ?_⟩
  have key : ∀ {j k : Nat}, Path M j k → b j = true → b k = true := by
    intro j k hp
    induction hp with
    | one hk => intro hj; exact hc _ hj _ hk
    | more hk _ ih => intro hj; exact ih (hc _ hj _ hk)
  cases hp with
  | one hk => exact h.2 k hk
  | more hk t => exact key t (h.2 _ hk)
end Go.Gp
namespace Go.Proofs.Yteakbbnlkjckhaa
open Go.Am Go.Gp
set_option linter.unusedVariables false
set_option linter.unusedSimpArgs false
set_option maxRecDepth 20000
set_option maxHeartbeats 4000000
attribute [local irreducible] OS LSr ODS CS
def o1 (b : Bool) : Value := iN (if b then 1 else 0)
def os (b : Nat → Bool) (n : Nat) : List Value := (List.range n).map fun k => o1 (b k)
theorem os_len (b : Nat → Bool) (n : Nat) : (os b n).length = n := by simp [os]
theorem os_at {b : Nat → Bool} {n k : Nat} {c : Bool} (h : k < n) (hb : b k = c) : (os b n)[k]? = some (o1 c) := by simp [os, h, hb]
theorem os_upb {b : Nat → Bool} {n k : Nat} (h : k < n) : (os b n).set k (iN 1) = os (upb b k) n := by
  apply List.ext_getElem?
  intro j
  rw [List.getElem?_set]
  by_cases hj : k = j
  · subst hj; rw [if_pos rfl, if_pos (by rw [os_len]; exact h), os_at h (upb_self b _)]; rfl
  · rw [if_neg hj]
    by_cases hn : j < n
    · have : upb b k j = b j := by
        have : (j == k) = false := by simp; omega
        simp [upb, this]
      rw [os_at hn rfl, os_at hn this]
    · rw [List.getElem?_eq_none (by rw [os_len]; omega), List.getElem?_eq_none (by rw [os_len]; omega)]
theorem refBelow_ct {L : RL} {v : Value} {M : Nd} {i : Nat} (hv : NL L v (nv M)) (hM : Ok M) (hn : M.length ≤ 4096) (ht : tot M ≤ 65536) (hi : i < M.length) :
    CS Try.prog 21 [v, iN i] L fun u L' => ∃ Y, L' = Y ++ L ∧ GV tI 1 [] u (below M i).length (ns (below M i)) Y := by
  suffices h : CS Try.prog 21 [v, iN i] L fun u L' => ∃ L₁, Sub L₁ L' ∧ ∃ Y, L₁ = Y ++ L ∧ GV tI 1 [] u (below M i).length (ns (below M i)) Y from h.less fun v L' h => h
  obtain ⟨ics, hs, hg⟩ := hv.ofN
  obtain ⟨wi, hwi, hswi⟩ := hg i (nd M i) (at_nd hi)
  have hwil := tot_mem (at_nd hi)
  have hsv : ∀ (x : Nat × ARow), SV 1 (x :: L) v M.length ics := fun x => hs.cons
  refine CS.mk (fn := Try.f21) rfl rfl rfl rfl ?_
  refine yG ?_
  refine OS.fresh rfl (e_make (l := M.length) (c := M.length) rfl rfl rfl makeT_ints (Nat.le_refl _) (by omega) (by omega)) (fun _ => rfl) (fun ro => ?_)
  have hon : ∀ b, SV 1 ((ro, ARow.cells tI (os b M.length)) :: L) (.slice (some ⟨ro, 0, none⟩) M.length M.length) M.length (os b M.length) := fun b => SV.row (List.mem_cons_self ..) (by rw [os_len]; simp)
  have he : repL [iN 0] M.length = os (fun _ => false) M.length := by
    simp only [repL, os]
    apply List.ext_getElem?
    intro j
    by_cases hj : j < M.length
    · simp [hj, o1]
    · simp [hj]
  rw [he]
  refine yG ?_
  refine LS.loopJ [0, 1, 5, 6] (fun q a L' => ∃ (j : Nat) (b : Nat → Bool), q = (nd M i).length - j ∧ j ≤ (nd M i).length ∧ (∀ k, b k = true ↔ k ∈ (nd M i).take j) ∧ L' = (ro, .cells tI (os b M.length)) :: L ∧ a = [v, iN i, .chan none, .chan none, .chan none, .slice (some ⟨ro, 0, none⟩) M.length M.length, iN j, .chan none, .chan none, .chan none, .chan none, .chan none, .chan none, .chan none, .chan none, .chan none, .chan none, .chan none, .chan none, .chan none, .chan none, .chan none, .chan none, .chan none, .chan none, .chan none, .chan none, .chan none, .chan none, .chan none, .chan none, .chan none, .chan none, .chan none, .chan none, .chan none, .chan none, .chan none, .chan none, .chan none, .chan none, .chan none, .chan none, .chan none, .chan none, .chan none, .chan none, .chan none, .chan none, .chan none, .chan none, .chan none, .chan none, .chan none, .chan none, .chan none, .chan none, .chan none, .chan none, .chan none, .chan none, .chan none, .chan none, .chan none, .chan none, .chan none, .chan none, .chan none, .chan none, .chan none, .chan none, .chan none, .chan none, .chan none, .chan none, .chan none, .chan none, .chan none, .chan none, .chan none, .chan none, .chan none, .chan none, .chan none, .chan none, .chan none, .chan none, .chan none, .chan none, .chan none, .chan none, .chan none]) (n := (nd M i).length) rfl ⟨0, fun _ => false, rfl, by omega, by simp, rfl, rfl⟩ ?_
  rintro q a L' ⟨j, b, rfl, hj, hb, rfl, rfl⟩
  have hsw1 : SV 1 ((ro, ARow.cells tI (os b M.length)) :: L) wi (nd M i).length (ns (nd M i)) := hswi.cons
  refine yG ?_
  refine OS.at1 (j := i) (hsv _) (hwi) rfl rfl rfl rfl rfl rfl (fun ra0 oa0 rowa0 csa0 ma0 ca0 ga0 => ⟨_, rfl, ?_⟩)
  refine OS.read rfl (e_loadm ma0 ca0 rfl rfl (part_one rfl ga0)) rfl ?_
  by_cases hjw : j < (nd M i).length
  · have hbj : (!ileB (((nd M i).length : Nat) : Int) (j : Nat)) = true := by rw [ileB_eq]; simp; omega
    obtain ⟨k, hk⟩ := ext_list hjw
    have hkm : k ∈ nd M i := List.mem_of_getElem? hk
    have hkn := hM i k hkm
    refine yG ?_
    refine OS.at1 (j := i) (hsv _) (hwi) rfl rfl rfl rfl rfl rfl (fun ra1 oa1 rowa1 csa1 ma1 ca1 ga1 => ⟨_, rfl, ?_⟩)
    refine OS.read rfl (e_loadm ma1 ca1 rfl rfl (part_one rfl ga1)) rfl ?_
    refine yG ?_
    refine OS.at1 (j := j) (hsw1) (ns_at hk) rfl rfl rfl rfl rfl rfl (fun ra2 oa2 rowa2 csa2 ma2 ca2 ga2 => ⟨_, rfl, ?_⟩)
    refine OS.read rfl (e_loadm ma2 ca2 rfl rfl (part_one rfl ga2)) rfl ?_
    refine OS.pure rfl (e_index (j := k) (sz := 1) rfl rfl rfl Try.underlying23 rfl hkn) rfl ?_
    refine OS.write rfl (e_store 0 (n := 1) (cs' := os (upb b k) M.length) rfl rfl rfl rfl rfl rfl (by rw [show 0 + k * 1 = k by omega, ← os_upb hkn]; exact lay_one (by rw [os_len]; omega)) rfl) rfl ?_
    refine yG ?_
    refine ⟨(nd M i).length - (j + 1), by omega, j + 1, upb b k, rfl, by omega, fun y => ?_, rfl, rfl⟩
    rw [take_snoc' hk]
    constructor
    · intro hy
      rcases upb_inv hy with rfl | hy
      · simp
      · exact List.mem_append_left _ ((hb y).1 hy)
    · intro hy
      rcases List.mem_append.1 hy with hy | hy
      · exact upb_mono ((hb y).2 hy)
      · simp at hy; subst hy; exact upb_self _ _
  · have hbj : (!ileB (((nd M i).length : Nat) : Int) (j : Nat)) = false := by rw [ileB_eq]; simp; omega
    rw [List.take_of_length_le (by omega)] at hb
    refine yG ?_
    refine LS.exit ?_
    have hrb : RB M i b := ⟨fun k hk => .one ((hb k).1 hk), fun k hk => (hb k).2 hk⟩
    clear hb hbj hsw1 he
    refine yG ?_
    refine LS.loopJ [0, 5, 7] (fun q a L' => ∃ (b : Nat → Bool) (ag : Bool), q = 2 * unr b M.length + (if ag then 1 else 0) ∧ RB M i b ∧ (ag = false → ∀ x, b x = true → ∀ k, k ∈ nd M x → b k = true) ∧ L' = (ro, .cells tI (os b M.length)) :: L ∧ a = [v, .chan none, .chan none, .chan none, .chan none, .slice (some ⟨ro, 0, none⟩) M.length M.length, .chan none, .bool ag, .chan none, .chan none, .chan none, .chan none, .chan none, .chan none, .chan none, .chan none, .chan none, .chan none, .chan none, .chan none, .chan none, .chan none, .chan none, .chan none, .chan none, .chan none, .chan none, .chan none, .chan none, .chan none, .chan none, .chan none, .chan none, .chan none, .chan none, .chan none, .chan none, .chan none, .chan none, .chan none, .chan none, .chan none, .chan none, .chan none, .chan none, .chan none, .chan none, .chan none, .chan none, .chan none, .chan none, .chan none, .chan none, .chan none, .chan none, .chan none, .chan none, .chan none, .chan none, .chan none, .chan none, .chan none, .chan none, .chan none, .chan none, .chan none, .chan none, .chan none, .chan none, .chan none, .chan none, .chan none, .chan none, .chan none, .chan none, .chan none, .chan none, .chan none, .chan none, .chan none, .chan none, .chan none, .chan none, .chan none, .chan none, .chan none, .chan none, .chan none, .chan none, .chan none, .chan none, .chan none]) (n := 2 * unr b M.length + 1) rfl ⟨b, true, rfl, hrb, fun h => (by cases h), rfl, rfl⟩ ?_
    clear hrb
    rintro q a L' ⟨b0, ag, rfl, hrb, hcl, rfl, rfl⟩
    rcases tf ag with rfl | rfl
    rotate_left
    · have hcl := hcl rfl
      have hend := hrb.end hcl
      refine yG ?_
      refine LS.exit ?_
      refine yG ?_
      refine LS.loopJ [0, 5, 10, 11] (fun q a L' => ∃ (i' : Nat) (rv : Value), q = M.length - i' ∧ i' ≤ M.length ∧ GV tI 1 ((ro, .cells tI (os b0 M.length)) :: L) rv (picks b0 i').length (ns (picks b0 i')) L' ∧ a = [v, .chan none, .chan none, .chan none, .chan none, .slice (some ⟨ro, 0, none⟩) M.length M.length, .chan none, .chan none, .chan none, .chan none, rv, iN i', .chan none, .chan none, .chan none, .chan none, .chan none, .chan none, .chan none, .chan none, .chan none, .chan none, .chan none, .chan none, .chan none, .chan none, .chan none, .chan none, .chan none, .chan none, .chan none, .chan none, .chan none, .chan none, .chan none, .chan none, .chan none, .chan none, .chan none, .chan none, .chan none, .chan none, .chan none, .chan none, .chan none, .chan none, .chan none, .chan none, .chan none, .chan none, .chan none, .chan none, .chan none, .chan none, .chan none, .chan none, .chan none, .chan none, .chan none, .chan none, .chan none, .chan none, .chan none, .chan none, .chan none, .chan none, .chan none, .chan none, .chan none, .chan none, .chan none, .chan none, .chan none, .chan none, .chan none, .chan none, .chan none, .chan none, .chan none, .chan none, .chan none, .chan none, .chan none, .chan none, .chan none, .chan none, .chan none, .chan none, .chan none, .chan none, .chan none, .chan none]) (n := M.length) rfl ⟨0, _, rfl, by omega, .nil, rfl⟩ ?_
      rintro q a L' ⟨i', rv, rfl, hi', hgv, rfl⟩
      have hs' := (hsv (ro, .cells tI (os b0 M.length))).mono hgv.mem
      have hon' := (hon b0).mono hgv.mem
      by_cases hin : i' < M.length
      · have hbi : (!ileB ((M.length : Nat) : Int) (i' : Nat)) = true := by rw [ileB_eq]; simp; omega
        have hpl := picks_len b0 i'
        have hps := picks_succ b0 i'
        refine yG ?_
        rcases tf (b0 i') with hb | hb
        · refine OS.at1 (j := i') (hon') (os_at hin hb) rfl rfl rfl rfl rfl rfl (fun ra0 oa0 rowa0 csa0 ma0 ca0 ga0 => ⟨_, rfl, ?_⟩)
          refine OS.read rfl (e_loadm ma0 ca0 rfl rfl (part_one rfl ga0)) rfl ?_
          rw [hb, if_pos rfl] at hps
          have h10 : (!ileB ((1 : Nat) : Int) 0) = true := rfl
          refine yG ?_
          refine OS.fresh rfl (e_new (fun _ => rfl) rfl) (fun _ => rfl) (fun rb => ?_)
          refine OS.fresh rfl (e_appendGV [_] (m := 1) (sz := 1) (bts := 8) hgv (SV.row (sz := 1) (n := 1) (List.mem_cons_self ..) rfl) (by omega) rfl rfl rfl rfl (by omega) (by omega)) (fun _ => rfl) (fun r2 => ?_)
          refine OS.sub (Sub.drop 1 rfl) ?_
          refine yG ?_
          refine ⟨M.length - (i' + 1), by omega, i' + 1, _, rfl, by omega, ?_, rfl⟩
          rw [hps, ns_snoc, List.length_append]
          exact GV.of (by simp [ns_len])
        · refine OS.at1 (j := i') (hon') (os_at hin hb) rfl rfl rfl rfl rfl rfl (fun ra0 oa0 rowa0 csa0 ma0 ca0 ga0 => ⟨_, rfl, ?_⟩)
          refine OS.read rfl (e_loadm ma0 ca0 rfl rfl (part_one rfl ga0)) rfl ?_
          rw [hb, if_neg (by simp), List.append_nil] at hps
          have h10 : (!ileB ((0 : Nat) : Int) 0) = false := rfl
          refine yG ?_
          exact ⟨M.length - (i' + 1), by omega, i' + 1, rv, rfl, by omega, by rw [hps]; exact hgv, rfl⟩
      · have hbi : (!ileB ((M.length : Nat) : Int) (i' : Nat)) = false := by rw [ileB_eq]; simp; omega
        obtain rfl : i' = M.length := by omega
        rw [picks_below (fun k _ => hend k)] at hgv
        have hf' : ∃ A c, rv = .slice A (below M i).length c := hgv.sv.form
        obtain ⟨A, c, rfl⟩ := hf'
        refine yG ?_
        refine LS.exit ?_
        refine yG ?_
        rcases hgv with ⟨e1, e2, e3, rfl⟩ | ⟨r', e1, e2, rfl⟩
        · exact ⟨L, Sub.drops 1 rfl, [], rfl, .inl ⟨e1, e2, e3, rfl⟩⟩
        · exact ⟨(r', .cells tI (ns (below M i))) :: L, Sub.sums2 [(ro, .cells tI (os b0 M.length))] fun f => by simp; omega, [(r', .cells tI (ns (below M i)))], rfl, .inr ⟨r', e1, e2, rfl⟩⟩
    · clear hcl
      refine yG ?_
      refine LS.loopJ [0, 5, 7, 8] (fun q a L' => ∃ (x : Nat) (b : Nat → Bool) (ag : Bool), q = M.length - x ∧ x ≤ M.length ∧ RB M i b ∧ (ag = true → unr b M.length < unr b0 M.length) ∧ (ag = false → unr b M.length = unr b0 M.length ∧ ∀ y, y < x → b y = true → ∀ k, k ∈ nd M y → b k = true) ∧ L' = (ro, .cells tI (os b M.length)) :: L ∧ a = [v, .chan none, .chan none, .chan none, .chan none, .slice (some ⟨ro, 0, none⟩) M.length M.length, .chan none, .bool ag, iN x, .chan none, .chan none, .chan none, .chan none, .chan none, .chan none, .chan none, .chan none, .chan none, .chan none, .chan none, .chan none, .chan none, .chan none, .chan none, .chan none, .chan none, .chan none, .chan none, .chan none, .chan none, .chan none, .chan none, .chan none, .chan none, .chan none, .chan none, .chan none, .chan none, .chan none, .chan none, .chan none, .chan none, .chan none, .chan none, .chan none, .chan none, .chan none, .chan none, .chan none, .chan none, .chan none, .chan none, .chan none, .chan none, .chan none, .chan none, .chan none, .chan none, .chan none, .chan none, .chan none, .chan none, .chan none, .chan none, .chan none, .chan none, .chan none, .chan none, .chan none, .chan none, .chan none, .chan none, .chan none, .chan none, .chan none, .chan none, .chan none, .chan none, .chan none, .chan none, .chan none, .chan none, .chan none, .chan none, .chan none, .chan none, .chan none, .chan none, .chan none, .chan none, .chan none, .chan none]) (n := M.length) rfl ⟨0, b0, false, rfl, by omega, hrb, fun h => (by cases h), fun _ => ⟨rfl, fun y h => by omega⟩, rfl, rfl⟩ ?_
      clear hrb
      rintro q a L' ⟨x, b, ag, rfl, hx, hrb, hag, hnag, rfl, rfl⟩
      by_cases hxn : x < M.length
      · have hbx : (!ileB ((M.length : Nat) : Int) (x : Nat)) = true := by rw [ileB_eq]; simp; omega
        obtain ⟨w, hw, hsw⟩ := hg x (nd M x) (at_nd hxn)
        have hwl := tot_mem (at_nd hxn)
        refine yG ?_
        refine LS.loopJ [0, 5, 7, 8, 9] (fun q a L' => ∃ (k : Nat) (b : Nat → Bool) (ag : Bool), q = (nd M x).length - k ∧ k ≤ (nd M x).length ∧ RB M i b ∧ (ag = true → unr b M.length < unr b0 M.length) ∧ (ag = false → unr b M.length = unr b0 M.length ∧ (∀ y, y < x → b y = true → ∀ k, k ∈ nd M y → b k = true) ∧ ∀ z, z ∈ (nd M x).take k → b z = true) ∧ L' = (ro, .cells tI (os b M.length)) :: L ∧ a = [v, .chan none, .chan none, .chan none, .chan none, .slice (some ⟨ro, 0, none⟩) M.length M.length, .chan none, .bool ag, iN x, iN k, .chan none, .chan none, .chan none, .chan none, .chan none, .chan none, .chan none, .chan none, .chan none, .chan none, .chan none, .chan none, .chan none, .chan none, .chan none, .chan none, .chan none, .chan none, .chan none, .chan none, .chan none, .chan none, .chan none, .chan none, .chan none, .chan none, .chan none, .chan none, .chan none, .chan none, .chan none, .chan none, .chan none, .chan none, .chan none, .chan none, .chan none, .chan none, .chan none, .chan none, .chan none, .chan none, .chan none, .chan none, .chan none, .chan none, .chan none, .chan none, .chan none, .chan none, .chan none, .chan none, .chan none, .chan none, .chan none, .chan none, .chan none, .chan none, .chan none, .chan none, .chan none, .chan none, .chan none, .chan none, .chan none, .chan none, .chan none, .chan none, .chan none, .chan none, .chan none, .chan none, .chan none, .chan none, .chan none, .chan none, .chan none, .chan none, .chan none, .chan none, .chan none, .chan none]) (n := (nd M x).length) rfl ⟨0, b, ag, rfl, by omega, hrb, hag, fun h => ⟨(hnag h).1, (hnag h).2, by simp⟩, rfl, rfl⟩ ?_
        clear hrb hag hnag
        rintro q a L' ⟨k, b, ag, rfl, hk, hrb, hag, hnag, rfl, rfl⟩
        have hsw1 : SV 1 ((ro, ARow.cells tI (os b M.length)) :: L) w (nd M x).length (ns (nd M x)) := hsw.cons
        refine yG ?_
        rcases tf (b x) with hb | hb
        rotate_left
        · refine OS.at1 (j := x) (hon b) (os_at hxn hb) rfl rfl rfl rfl rfl rfl (fun ra0 oa0 rowa0 csa0 ma0 ca0 ga0 => ⟨_, rfl, ?_⟩)
          refine OS.read rfl (e_loadm ma0 ca0 rfl rfl (part_one rfl ga0)) rfl ?_
          have h10 : (!ileB ((0 : Nat) : Int) 0) = false := rfl
          refine yG ?_
          refine LS.exit ?_
          refine yG ?_
          exact ⟨M.length - (x + 1), by omega, x + 1, b, ag, rfl, by omega, hrb, hag, fun h => ⟨(hnag h).1, fun y hy hby => by
            by_cases hyx : y = x
            · subst hyx; rw [hb] at hby; cases hby
            · exact (hnag h).2.1 y (by omega) hby⟩, rfl, rfl⟩
        refine OS.at1 (j := x) (hon b) (os_at hxn hb) rfl rfl rfl rfl rfl rfl (fun ra0 oa0 rowa0 csa0 ma0 ca0 ga0 => ⟨_, rfl, ?_⟩)
        refine OS.read rfl (e_loadm ma0 ca0 rfl rfl (part_one rfl ga0)) rfl ?_
        have h10 : (!ileB ((1 : Nat) : Int) 0) = true := rfl
        refine yG ?_
        refine OS.at1 (j := x) (hsv _) (hw) rfl rfl rfl rfl rfl rfl (fun ra1 oa1 rowa1 csa1 ma1 ca1 ga1 => ⟨_, rfl, ?_⟩)
        refine OS.read rfl (e_loadm ma1 ca1 rfl rfl (part_one rfl ga1)) rfl ?_
        by_cases hkw : k < (nd M x).length
        · have hbk : (!ileB (((nd M x).length : Nat) : Int) (k : Nat)) = true := by rw [ileB_eq]; simp; omega
          obtain ⟨z, hz⟩ := ext_list hkw
          have hzm : z ∈ nd M x := List.mem_of_getElem? hz
          have hzn := hM x z hzm
          refine yG ?_
          refine OS.at1 (j := x) (hsv _) (hw) rfl rfl rfl rfl rfl rfl (fun ra2 oa2 rowa2 csa2 ma2 ca2 ga2 => ⟨_, rfl, ?_⟩)
          refine OS.read rfl (e_loadm ma2 ca2 rfl rfl (part_one rfl ga2)) rfl ?_
          refine yG ?_
          refine OS.at1 (j := k) (hsw1) (ns_at hz) rfl rfl rfl rfl rfl rfl (fun ra3 oa3 rowa3 csa3 ma3 ca3 ga3 => ⟨_, rfl, ?_⟩)
          refine OS.read rfl (e_loadm ma3 ca3 rfl rfl (part_one rfl ga3)) rfl ?_
          rcases tf (b z) with hbz | hbz
          · refine OS.at1 (j := z) (hon b) (os_at hzn hbz) rfl rfl rfl rfl rfl rfl (fun ra4 oa4 rowa4 csa4 ma4 ca4 ga4 => ⟨_, rfl, ?_⟩)
            refine OS.read rfl (e_loadm ma4 ca4 rfl rfl (part_one rfl ga4)) rfl ?_
            have h11 : ieqB ((1 : Nat) : Int) 0 = false := rfl
            refine yG ?_
            exact ⟨(nd M x).length - (k + 1), by omega, k + 1, b, ag, rfl, by omega, hrb, hag, fun h => ⟨(hnag h).1, (hnag h).2.1, fun y hy => by
              rw [take_snoc' hz] at hy
              rcases List.mem_append.1 hy with hy | hy
              · exact (hnag h).2.2 y hy
              · simp at hy; subst hy; exact hbz⟩, rfl, rfl⟩
          · refine OS.at1 (j := z) (hon b) (os_at hzn hbz) rfl rfl rfl rfl rfl rfl (fun ra4 oa4 rowa4 csa4 ma4 ca4 ga4 => ⟨_, rfl, ?_⟩)
            refine OS.read rfl (e_loadm ma4 ca4 rfl rfl (part_one rfl ga4)) rfl ?_
            have h11 : ieqB ((0 : Nat) : Int) 0 = true := rfl
            have hu := unr_upb hbz M.length hzn
            refine yG ?_
            refine OS.at1 (j := x) (hsv _) (hw) rfl rfl rfl rfl rfl rfl (fun ra5 oa5 rowa5 csa5 ma5 ca5 ga5 => ⟨_, rfl, ?_⟩)
            refine OS.read rfl (e_loadm ma5 ca5 rfl rfl (part_one rfl ga5)) rfl ?_
            refine yG ?_
            refine OS.at1 (j := k) (hsw1) (ns_at hz) rfl rfl rfl rfl rfl rfl (fun ra6 oa6 rowa6 csa6 ma6 ca6 ga6 => ⟨_, rfl, ?_⟩)
            refine OS.read rfl (e_loadm ma6 ca6 rfl rfl (part_one rfl ga6)) rfl ?_
            refine OS.pure rfl (e_index (j := z) (sz := 1) rfl rfl rfl Try.underlying23 rfl hzn) rfl ?_
            refine OS.write rfl (e_store 0 (n := 1) (cs' := os (upb b z) M.length) rfl rfl rfl rfl rfl rfl (by rw [show 0 + z * 1 = z by omega, ← os_upb hzn]; exact lay_one (by rw [os_len]; omega)) rfl) rfl ?_
            refine yG ?_
            refine ⟨(nd M x).length - (k + 1), by omega, k + 1, upb b z, true, rfl, by omega, hrb.add hb hzm, fun _ => ?_, fun h => (by cases h), rfl, rfl⟩
            rcases tf ag with h | h
            · have := hag h; omega
            · have := (hnag h).1; omega
        · have hbk : (!ileB (((nd M x).length : Nat) : Int) (k : Nat)) = false := by rw [ileB_eq]; simp; omega
          refine yG ?_
          refine LS.exit ?_
          refine yG ?_
          refine ⟨M.length - (x + 1), by omega, x + 1, b, ag, rfl, by omega, hrb, hag, fun h => ⟨(hnag h).1, fun y hy hby => ?_⟩, rfl, rfl⟩
          by_cases hyx : y = x
          · subst hyx
            have := (hnag h).2.2
            rw [List.take_of_length_le (by omega)] at this
            exact this
          · exact (hnag h).2.1 y (by omega) hby
      · have hbx : (!ileB ((M.length : Nat) : Int) (x : Nat)) = false := by rw [ileB_eq]; simp; omega
        obtain rfl : x = M.length := by omega
        refine yG ?_
        refine LS.exit ?_
        refine ⟨_, ?_, b, ag, rfl, hrb, fun h y hy => (hnag h).2 y ((hrb.1 y hy).in hM) hy, rfl, rfl⟩
        rcases tf ag with h | h
        · have := hag h; rw [h]; simp; omega
        · have := (hnag h).1; rw [h]; simp; omega
end Go.Proofs.Yteakbbnlkjckhaa

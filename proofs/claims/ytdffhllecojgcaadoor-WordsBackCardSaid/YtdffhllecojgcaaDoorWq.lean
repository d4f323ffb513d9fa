/- Layer 2: the document's Own and Join. -/
import Derived.Test.YtdffhllecojgcaaDoorWp
namespace Go.Am
theorem Sub.self {L : RL} : Sub L L := ⟨[], by simp⟩
end Go.Am
namespace Go.Proofs.YtdffhllecojgcaaDoor
open Go.Am
set_option linter.unusedVariables false
set_option maxRecDepth 20000

def own0 : List UInt8 → Bool
  | [] => false
  | c :: _ => !(c == 35)
theorem own0_eq (w : List UInt8) : ownP w = (own0 w && w.all isP) := by cases w <;> rfl
abbrev u8s (r : Nat) (bs : List UInt8) : Nat × ARow := (r, .cells 5 (byteCells bs))
abbrev sl8 (r : Nat) (bs : List UInt8) : Value := .slice (some ⟨r, 0, none⟩) bs.length openCap
theorem refOwn_ct {L : RL} (w : List UInt8) (hw : w.length ≤ 10000) : CS Tryd.prog 26 [str w] L fun v L' => v = str (ownF w) ∧ L' = L := by
  suffices h : CS Tryd.prog 26 [str w] L fun v L' => v = str (ownF w) ∧ Sub L L' by
    exact h.less fun v L' ⟨h1, h2⟩ => ⟨L, h2, h1, rfl⟩
  refine CS.mk (fn := Tryd.f26) rfl rfl rfl rfl ?_
  repeat refine LS.seq ?_
  refine LS.region rfl ?_
  refine OS.pure rfl (fun _ => rfl) rfl ?_
  refine OS.nil ?_
  repeat refine LS.seq ?_
  refine LS.mid [0, 3] (fun a L' => L' = L ∧ a = [str w, .chan none, .chan none, .bool (own0 w), .chan none, .chan none, .chan none, .chan none, .chan none, .chan none, .chan none, .chan none, .chan none, .chan none, .chan none, .chan none, .chan none, .chan none, .chan none, .chan none, .chan none, .chan none, .chan none, .chan none, .chan none, .chan none, .chan none, .chan none, .chan none, .chan none, .chan none, .chan none, .chan none, .chan none, .chan none, .chan none, .chan none, .chan none, .chan none, .chan none, .chan none, .chan none, .chan none, .chan none, .chan none, .chan none, .chan none, .chan none, .chan none, .chan none, .chan none, .chan none, .chan none, .chan none, .chan none, .chan none, .chan none, .chan none, .chan none, .chan none, .chan none, .chan none, .chan none, .chan none, .chan none, .chan none, .chan none, .chan none, .chan none, .chan none, .chan none, .chan none, .chan none, .chan none, .chan none, .chan none, .chan none, .chan none, .chan none, .chan none, .chan none, .chan none, .chan none, .chan none, .chan none, .chan none, .chan none, .chan none, .chan none, .chan none, .chan none, .chan none, .chan none, .chan none, .chan none, .chan none, .chan none, .chan none, .chan none]) ?_ ?_
  · cases w with
    | nil =>
      refine LS.region rfl ?_
      refine OS.pure rfl (fun _ => rfl) rfl ?_
      refine OS.pure rfl (fun _ => rfl) rfl ?_
      refine OS.pure rfl (fun _ => rfl) rfl ?_
      refine OS.skip rfl rfl ?_
      refine OS.skip rfl rfl ?_
      refine OS.skip rfl rfl ?_
      refine OS.pure rfl (fun _ => rfl) rfl ?_
      refine OS.pure rfl (fun _ => rfl) rfl ?_
      refine OS.nil ?_
      exact ⟨rfl, rfl⟩
    | cons c w =>
      have hc : (!ieqB (c.toNat : Int) 35) = (!(c == 35)) := by
        congr 1
        rw [ieqB_eq, Bool.eq_iff_iff]
        simp [← UInt8.toNat_inj]; omega
      refine LS.region rfl ?_
      refine OS.pure rfl (fun _ => rfl) rfl ?_
      refine OS.pure rfl (fun _ => rfl) rfl ?_
      refine OS.pure rfl (fun _ => rfl) rfl ?_
      refine OS.pure rfl (fun _ => rfl) rfl ?_
      refine OS.pure rfl (e_byte (j := 0) rfl rfl rfl rfl rfl) rfl ?_
      refine OS.pure rfl (e_is (fun _ => rfl) (congrArg Value.bool hc)) rfl ?_
      refine OS.pure rfl (fun _ => rfl) rfl ?_
      refine OS.pure rfl (fun _ => rfl) rfl ?_
      refine OS.nil ?_
      exact ⟨rfl, rfl⟩
  rintro a L' ⟨rfl, rfl⟩
  repeat refine LS.seq ?_
  refine LS.region rfl ?_
  refine OS.pure rfl (fun _ => rfl) rfl ?_
  refine OS.nil ?_
  repeat refine LS.seq ?_
  refine LS.mid [0, 3] (fun a L'' => L'' = L' ∧ a = [str w, .chan none, .chan none, .bool (ownP w), .chan none, .chan none, .chan none, .chan none, .chan none, .chan none, .chan none, .chan none, .chan none, .chan none, .chan none, .chan none, .chan none, .chan none, .chan none, .chan none, .chan none, .chan none, .chan none, .chan none, .chan none, .chan none, .chan none, .chan none, .chan none, .chan none, .chan none, .chan none, .chan none, .chan none, .chan none, .chan none, .chan none, .chan none, .chan none, .chan none, .chan none, .chan none, .chan none, .chan none, .chan none, .chan none, .chan none, .chan none, .chan none, .chan none, .chan none, .chan none, .chan none, .chan none, .chan none, .chan none, .chan none, .chan none, .chan none, .chan none, .chan none, .chan none, .chan none, .chan none, .chan none, .chan none, .chan none, .chan none, .chan none, .chan none, .chan none, .chan none, .chan none, .chan none, .chan none, .chan none, .chan none, .chan none, .chan none, .chan none, .chan none, .chan none, .chan none, .chan none, .chan none, .chan none, .chan none, .chan none, .chan none, .chan none, .chan none, .chan none, .chan none, .chan none, .chan none, .chan none, .chan none, .chan none, .chan none]) ?_ ?_
  · refine LS.block ?_
    refine LS.loopJ [0, 3, 4] (fun q a L'' => ∃ (j : Nat) (b : Bool), q = w.length - j ∧ j ≤ w.length ∧ b = (own0 w && (w.take j).all isP) ∧ L'' = L' ∧ a = [str w, .chan none, .chan none, .bool b, .int .i64 (j : Nat), .chan none, .chan none, .chan none, .chan none, .chan none, .chan none, .chan none, .chan none, .chan none, .chan none, .chan none, .chan none, .chan none, .chan none, .chan none, .chan none, .chan none, .chan none, .chan none, .chan none, .chan none, .chan none, .chan none, .chan none, .chan none, .chan none, .chan none, .chan none, .chan none, .chan none, .chan none, .chan none, .chan none, .chan none, .chan none, .chan none, .chan none, .chan none, .chan none, .chan none, .chan none, .chan none, .chan none, .chan none, .chan none, .chan none, .chan none, .chan none, .chan none, .chan none, .chan none, .chan none, .chan none, .chan none, .chan none, .chan none, .chan none, .chan none, .chan none, .chan none, .chan none, .chan none, .chan none, .chan none, .chan none, .chan none, .chan none, .chan none, .chan none, .chan none, .chan none, .chan none, .chan none, .chan none, .chan none, .chan none, .chan none, .chan none, .chan none, .chan none, .chan none, .chan none, .chan none, .chan none, .chan none, .chan none, .chan none, .chan none, .chan none, .chan none, .chan none, .chan none, .chan none, .chan none]) (n := w.length) rfl ⟨0, own0 w, rfl, by omega, by simp, rfl, rfl⟩ ?_
    rintro q a L'' ⟨j, b, rfl, hj, hb, rfl, rfl⟩
    repeat refine LS.seq ?_
    refine LS.region rfl ?_
    refine OS.pure rfl (fun _ => rfl) rfl ?_
    refine OS.pure rfl (fun _ => rfl) rfl ?_
    refine OS.pure rfl (fun _ => rfl) rfl ?_
    refine OS.pure rfl (fun _ => rfl) rfl ?_
    refine OS.nil ?_
    repeat refine LS.seq ?_
    refine LS.cond rfl (fun hc => ?_) (fun hc => ?_)
    · have hc : (j : Int) < w.length := lt_of hc
      have hjl : j < w.length := by omega
      have hg := List.getElem?_eq_getElem hjl
      have hsn : (w.take (j + 1)).all isP = ((w.take j).all isP && isP (w[j]'hjl)) := by
        rw [List.take_add_one, hg]
        simp only [Option.toList_some, List.all_append, List.all_cons, List.all_nil, Bool.and_true]
      generalize w[j] = c at hg hsn
      have step : ∀ b', b' = (b && isP c) → b' = (own0 w && (w.take (j + 1)).all isP) := fun b' h => by rw [h, hb, hsn, Bool.and_assoc]
      refine LS.skip ?_
      repeat refine LS.seq ?_
      refine LS.mid [0, 3, 4] (fun a L2 => ∃ b', b' = (b && isP c) ∧ L2 = L'' ∧ a = [str w, .chan none, .chan none, .bool b', .int .i64 (j : Nat), .chan none, .chan none, .chan none, .chan none, .chan none, .chan none, .chan none, .chan none, .chan none, .chan none, .chan none, .chan none, .chan none, .chan none, .chan none, .chan none, .chan none, .chan none, .chan none, .chan none, .chan none, .chan none, .chan none, .chan none, .chan none, .chan none, .chan none, .chan none, .chan none, .chan none, .chan none, .chan none, .chan none, .chan none, .chan none, .chan none, .chan none, .chan none, .chan none, .chan none, .chan none, .chan none, .chan none, .chan none, .chan none, .chan none, .chan none, .chan none, .chan none, .chan none, .chan none, .chan none, .chan none, .chan none, .chan none, .chan none, .chan none, .chan none, .chan none, .chan none, .chan none, .chan none, .chan none, .chan none, .chan none, .chan none, .chan none, .chan none, .chan none, .chan none, .chan none, .chan none, .chan none, .chan none, .chan none, .chan none, .chan none, .chan none, .chan none, .chan none, .chan none, .chan none, .chan none, .chan none, .chan none, .chan none, .chan none, .chan none, .chan none, .chan none, .chan none, .chan none, .chan none, .chan none]) ?_ ?_
      · repeat refine LS.seq ?_
        refine LS.block ?_
        cases b with
        | false =>
          repeat refine LS.seq ?_
          refine LS.region rfl ?_
          refine OS.pure rfl (fun _ => rfl) rfl ?_
          refine OS.pure rfl (fun _ => rfl) rfl ?_
          refine OS.skip rfl rfl ?_
          refine OS.skip rfl rfl ?_
          refine OS.skip rfl rfl ?_
          refine OS.skip rfl rfl ?_
          refine OS.pure rfl (fun _ => rfl) rfl ?_
          refine OS.pure rfl (fun _ => rfl) rfl ?_
          refine OS.skip rfl rfl ?_
          refine OS.skip rfl rfl ?_
          refine OS.skip rfl rfl ?_
          refine OS.skip rfl rfl ?_
          refine OS.pure rfl (fun _ => rfl) rfl ?_
          refine OS.pure rfl (fun _ => rfl) rfl ?_
          refine OS.skip rfl rfl ?_
          refine OS.skip rfl rfl ?_
          refine OS.skip rfl rfl ?_
          refine OS.skip rfl rfl ?_
          refine OS.pure rfl (fun _ => rfl) rfl ?_
          refine OS.pure rfl (fun _ => rfl) rfl ?_
          refine OS.nil ?_
          exact ⟨_, rfl, rfl, rfl⟩
        | true =>
          by_cases p1 : 32 < c.toNat
          · have c1 : ileB 33 (c.toNat : Int) = true := by rw [ileB_eq]; simp; omega
            by_cases p2 : c.toNat ≤ 126
            · have c2 : ileB (c.toNat : Int) 126 = true := by rw [ileB_eq]; simp; omega
              have c3 : (!ieqB (c.toNat : Int) 34) = isP c := by
                simp only [isP, p1, p2, decide_true, Bool.true_and]
                congr 1
                rw [ieqB_eq, Bool.eq_iff_iff]
                simp [← UInt8.toNat_inj]; omega
              repeat refine LS.seq ?_
              refine LS.region rfl ?_
              refine OS.pure rfl (fun _ => rfl) rfl ?_
              refine OS.pure rfl (fun _ => rfl) rfl ?_
              refine OS.pure rfl (fun _ => rfl) rfl ?_
              refine OS.pure rfl (fun _ => rfl) rfl ?_
              refine OS.pure rfl (e_byte (s := w) (j := j) rfl rfl rfl rfl hg) rfl ?_
              refine OS.pure rfl (e_is (fun _ => rfl) (congrArg Value.bool c1)) rfl ?_
              refine OS.pure rfl (fun _ => rfl) rfl ?_
              refine OS.pure rfl (fun _ => rfl) rfl ?_
              refine OS.pure rfl (fun _ => rfl) rfl ?_
              refine OS.pure rfl (fun _ => rfl) rfl ?_
              refine OS.pure rfl (e_byte (s := w) (j := j) rfl rfl rfl rfl hg) rfl ?_
              refine OS.pure rfl (e_is (fun _ => rfl) (congrArg Value.bool c2)) rfl ?_
              refine OS.pure rfl (fun _ => rfl) rfl ?_
              refine OS.pure rfl (fun _ => rfl) rfl ?_
              refine OS.pure rfl (fun _ => rfl) rfl ?_
              refine OS.pure rfl (fun _ => rfl) rfl ?_
              refine OS.pure rfl (e_byte (s := w) (j := j) rfl rfl rfl rfl hg) rfl ?_
              refine OS.pure rfl (e_is (fun _ => rfl) (congrArg Value.bool c3)) rfl ?_
              refine OS.pure rfl (fun _ => rfl) rfl ?_
              refine OS.pure rfl (fun _ => rfl) rfl ?_
              refine OS.nil ?_
              exact ⟨_, by simp, rfl, rfl⟩
            · have c2 : ileB (c.toNat : Int) 126 = false := by rw [ileB_eq]; simp; omega
              repeat refine LS.seq ?_
              refine LS.region rfl ?_
              refine OS.pure rfl (fun _ => rfl) rfl ?_
              refine OS.pure rfl (fun _ => rfl) rfl ?_
              refine OS.pure rfl (fun _ => rfl) rfl ?_
              refine OS.pure rfl (fun _ => rfl) rfl ?_
              refine OS.pure rfl (e_byte (s := w) (j := j) rfl rfl rfl rfl hg) rfl ?_
              refine OS.pure rfl (e_is (fun _ => rfl) (congrArg Value.bool c1)) rfl ?_
              refine OS.pure rfl (fun _ => rfl) rfl ?_
              refine OS.pure rfl (fun _ => rfl) rfl ?_
              refine OS.pure rfl (fun _ => rfl) rfl ?_
              refine OS.pure rfl (fun _ => rfl) rfl ?_
              refine OS.pure rfl (e_byte (s := w) (j := j) rfl rfl rfl rfl hg) rfl ?_
              refine OS.pure rfl (e_is (fun _ => rfl) (congrArg Value.bool c2)) rfl ?_
              refine OS.pure rfl (fun _ => rfl) rfl ?_
              refine OS.pure rfl (fun _ => rfl) rfl ?_
              refine OS.skip rfl rfl ?_
              refine OS.skip rfl rfl ?_
              refine OS.skip rfl rfl ?_
              refine OS.skip rfl rfl ?_
              refine OS.pure rfl (fun _ => rfl) rfl ?_
              refine OS.pure rfl (fun _ => rfl) rfl ?_
              refine OS.nil ?_
              exact ⟨_, by simp [isP, p2], rfl, rfl⟩
          · have c1 : ileB 33 (c.toNat : Int) = false := by rw [ileB_eq]; simp; omega
            repeat refine LS.seq ?_
            refine LS.region rfl ?_
            refine OS.pure rfl (fun _ => rfl) rfl ?_
            refine OS.pure rfl (fun _ => rfl) rfl ?_
            refine OS.pure rfl (fun _ => rfl) rfl ?_
            refine OS.pure rfl (fun _ => rfl) rfl ?_
            refine OS.pure rfl (e_byte (s := w) (j := j) rfl rfl rfl rfl hg) rfl ?_
            refine OS.pure rfl (e_is (fun _ => rfl) (congrArg Value.bool c1)) rfl ?_
            refine OS.pure rfl (fun _ => rfl) rfl ?_
            refine OS.pure rfl (fun _ => rfl) rfl ?_
            refine OS.skip rfl rfl ?_
            refine OS.skip rfl rfl ?_
            refine OS.skip rfl rfl ?_
            refine OS.skip rfl rfl ?_
            refine OS.pure rfl (fun _ => rfl) rfl ?_
            refine OS.pure rfl (fun _ => rfl) rfl ?_
            refine OS.skip rfl rfl ?_
            refine OS.skip rfl rfl ?_
            refine OS.skip rfl rfl ?_
            refine OS.skip rfl rfl ?_
            refine OS.pure rfl (fun _ => rfl) rfl ?_
            refine OS.pure rfl (fun _ => rfl) rfl ?_
            refine OS.nil ?_
            exact ⟨_, by simp [isP, p1], rfl, rfl⟩
      rintro a L2 ⟨b', hb', rfl, rfl⟩
      repeat refine LS.seq ?_
      refine LS.region rfl ?_
      refine OS.pure rfl (fun _ => rfl) rfl ?_
      refine OS.pure rfl (e_add (m := (j : Int)) (n := 1) rfl rfl rfl (in_i64 (by omega) (by omega))) rfl ?_
      rw [show ((j : Nat) : Int) + 1 = ((j + 1 : Nat) : Int) by omega]
      refine OS.pure rfl (fun _ => rfl) rfl ?_
      refine OS.nil ?_
      exact ⟨w.length - (j + 1), by omega, j + 1, b', rfl, by omega, step b' hb', rfl, rfl⟩
    · have hc : (w.length : Int) ≤ j := nlt_of hc
      rw [List.take_of_length_le (by omega), ← own0_eq] at hb
      subst hb
      refine LS.exit ?_
      exact ⟨rfl, rfl⟩
  rintro a L'' ⟨rfl, rfl⟩
  repeat refine LS.seq ?_
  refine LS.region rfl ?_
  refine OS.pure rfl (fun _ => rfl) rfl ?_
  refine OS.nil ?_
  repeat refine LS.seq ?_
  refine LS.cond rfl (fun hp => ?_) (fun hp => ?_)
  · have hp : ownP w = true := hp
    repeat refine LS.seq ?_
    refine LS.region rfl ?_
    refine OS.pure rfl (fun _ => rfl) rfl ?_
    refine OS.pure rfl (fun _ => rfl) rfl ?_
    refine OS.nil ?_
    refine LS.ret ⟨_, fun _ _ => rfl, ?_⟩
    exact ⟨by simp [tupleB, ownF, hp], Sub.self⟩
  have hp : ownP w = false := hp
  refine LS.skip ?_
  repeat refine LS.seq ?_
  refine LS.region rfl ?_
  refine OS.fresh rfl (e_new (fun _ => rfl) rfl) (fun _ => rfl) (fun r5 => ?_)
  refine OS.pure rfl (fun _ => rfl) rfl ?_
  refine OS.opened 5 0 (sz := 1) rfl rfl rfl (by decide) (by decide) rfl ?_
  refine OS.nil ?_
  repeat refine LS.seq ?_
  refine LS.region rfl ?_
  refine OS.pure rfl (fun _ => rfl) rfl ?_
  refine OS.nil ?_
  repeat refine LS.seq ?_
  refine LS.block ?_
  refine LS.loopJ [0, 5, 6] (fun q a L2 => ∃ (j r : Nat), q = w.length - j ∧ j ≤ w.length ∧ L2 = u8s r ([34] ++ (w.take j).flatMap markE) :: L'' ∧ a = [str w, .chan none, .chan none, .chan none, .chan none, sl8 r ([34] ++ (w.take j).flatMap markE), .int .i64 (j : Nat), .chan none, .chan none, .chan none, .chan none, .chan none, .chan none, .chan none, .chan none, .chan none, .chan none, .chan none, .chan none, .chan none, .chan none, .chan none, .chan none, .chan none, .chan none, .chan none, .chan none, .chan none, .chan none, .chan none, .chan none, .chan none, .chan none, .chan none, .chan none, .chan none, .chan none, .chan none, .chan none, .chan none, .chan none, .chan none, .chan none, .chan none, .chan none, .chan none, .chan none, .chan none, .chan none, .chan none, .chan none, .chan none, .chan none, .chan none, .chan none, .chan none, .chan none, .chan none, .chan none, .chan none, .chan none, .chan none, .chan none, .chan none, .chan none, .chan none, .chan none, .chan none, .chan none, .chan none, .chan none, .chan none, .chan none, .chan none, .chan none, .chan none, .chan none, .chan none, .chan none, .chan none, .chan none, .chan none, .chan none, .chan none, .chan none, .chan none, .chan none, .chan none, .chan none, .chan none, .chan none, .chan none, .chan none, .chan none, .chan none, .chan none, .chan none, .chan none, .chan none]) (n := w.length) rfl ⟨0, r5, rfl, by omega, rfl, rfl⟩ ?_
  rintro q a L2 ⟨j, r, rfl, hj, rfl, rfl⟩
  have hle := (marks_len (w.take j)).2
  rw [List.length_take] at hle
  repeat refine LS.seq ?_
  refine LS.region rfl ?_
  refine OS.pure rfl (fun _ => rfl) rfl ?_
  refine OS.pure rfl (fun _ => rfl) rfl ?_
  refine OS.pure rfl (fun _ => rfl) rfl ?_
  refine OS.pure rfl (fun _ => rfl) rfl ?_
  refine OS.nil ?_
  repeat refine LS.seq ?_
  refine LS.cond rfl (fun hc => ?_) (fun hc => ?_)
  · have hc : (j : Int) < w.length := lt_of hc
    have hjl : j < w.length := by omega
    have hg := List.getElem?_eq_getElem hjl
    have hsn : (w.take (j + 1)).flatMap markE = (w.take j).flatMap markE ++ markE (w[j]'hjl) := by
      rw [List.take_add_one, hg]
      simp only [Option.toList_some, List.flatMap_append, List.flatMap_cons, List.flatMap_nil, List.append_nil]
    generalize w[j] = c at hg hsn
    have hcl := c.toNat_lt
    have hacc : ([34] ++ (w.take j).flatMap markE).length ≤ 50000 := by rw [List.length_append]; simp only [List.length_cons, List.length_nil]; omega
    have hE : [34] ++ (w.take (j + 1)).flatMap markE = ([34] ++ (w.take j).flatMap markE) ++ markE c := by rw [hsn, ← List.append_assoc]
    generalize hA : [34] ++ (w.take j).flatMap markE = acc at hacc hE ⊢
    refine LS.skip ?_
    repeat refine LS.seq ?_
    refine LS.mid [0, 5, 6] (fun a L2 => ∃ r', Am.Sub (u8s r' (acc ++ markE c) :: L'') L2 ∧ a = [str w, .chan none, .chan none, .chan none, .chan none, sl8 r' (acc ++ markE c), .int .i64 (j : Nat), .chan none, .chan none, .chan none, .chan none, .chan none, .chan none, .chan none, .chan none, .chan none, .chan none, .chan none, .chan none, .chan none, .chan none, .chan none, .chan none, .chan none, .chan none, .chan none, .chan none, .chan none, .chan none, .chan none, .chan none, .chan none, .chan none, .chan none, .chan none, .chan none, .chan none, .chan none, .chan none, .chan none, .chan none, .chan none, .chan none, .chan none, .chan none, .chan none, .chan none, .chan none, .chan none, .chan none, .chan none, .chan none, .chan none, .chan none, .chan none, .chan none, .chan none, .chan none, .chan none, .chan none, .chan none, .chan none, .chan none, .chan none, .chan none, .chan none, .chan none, .chan none, .chan none, .chan none, .chan none, .chan none, .chan none, .chan none, .chan none, .chan none, .chan none, .chan none, .chan none, .chan none, .chan none, .chan none, .chan none, .chan none, .chan none, .chan none, .chan none, .chan none, .chan none, .chan none, .chan none, .chan none, .chan none, .chan none, .chan none, .chan none, .chan none, .chan none, .chan none]) ?_ ?_
    · repeat refine LS.seq ?_
      refine LS.block ?_
      repeat refine LS.seq ?_
      refine LS.region rfl ?_
      refine OS.pure rfl (fun _ => rfl) rfl ?_
      refine OS.pure rfl (fun _ => rfl) rfl ?_
      refine OS.pure rfl (e_byte (s := w) (j := j) rfl rfl rfl rfl hg) rfl ?_
      refine OS.pure rfl (fun _ => rfl) rfl ?_
      refine OS.nil ?_
      have fin : ∀ (r' : Nat) (m : List UInt8), m = markE c → ∀ n, n = acc.length + m.length → ∀ L2, Am.Sub ((r', ARow.cells 5 (byteCells acc ++ byteCells m)) :: L'') L2 → ∃ r'', Am.Sub (u8s r'' (acc ++ markE c) :: L'') L2 ∧ [str w, .chan none, .chan none, .chan none, .chan none, .slice (some ⟨r', 0, none⟩) n openCap, .int .i64 (j : Nat), .chan none, .chan none, .chan none, .chan none, .chan none, .chan none, .chan none, .chan none, .chan none, .chan none, .chan none, .chan none, .chan none, .chan none, .chan none, .chan none, .chan none, .chan none, .chan none, .chan none, .chan none, .chan none, .chan none, .chan none, .chan none, .chan none, .chan none, .chan none, .chan none, .chan none, .chan none, .chan none, .chan none, .chan none, .chan none, .chan none, .chan none, .chan none, .chan none, .chan none, .chan none, .chan none, .chan none, .chan none, .chan none, .chan none, .chan none, .chan none, .chan none, .chan none, .chan none, .chan none, .chan none, .chan none, .chan none, .chan none, .chan none, .chan none, .chan none, .chan none, .chan none, .chan none, .chan none, .chan none, .chan none, .chan none, .chan none, .chan none, .chan none, .chan none, .chan none, .chan none, .chan none, .chan none, .chan none, .chan none, .chan none, .chan none, .chan none, .chan none, .chan none, .chan none, .chan none, .chan none, .chan none, .chan none, .chan none, .chan none, .chan none, .chan none, .chan none, .chan none] = [str w, .chan none, .chan none, .chan none, .chan none, sl8 r'' (acc ++ markE c), .int .i64 (j : Nat), .chan none, .chan none, .chan none, .chan none, .chan none, .chan none, .chan none, .chan none, .chan none, .chan none, .chan none, .chan none, .chan none, .chan none, .chan none, .chan none, .chan none, .chan none, .chan none, .chan none, .chan none, .chan none, .chan none, .chan none, .chan none, .chan none, .chan none, .chan none, .chan none, .chan none, .chan none, .chan none, .chan none, .chan none, .chan none, .chan none, .chan none, .chan none, .chan none, .chan none, .chan none, .chan none, .chan none, .chan none, .chan none, .chan none, .chan none, .chan none, .chan none, .chan none, .chan none, .chan none, .chan none, .chan none, .chan none, .chan none, .chan none, .chan none, .chan none, .chan none, .chan none, .chan none, .chan none, .chan none, .chan none, .chan none, .chan none, .chan none, .chan none, .chan none, .chan none, .chan none, .chan none, .chan none, .chan none, .chan none, .chan none, .chan none, .chan none, .chan none, .chan none, .chan none, .chan none, .chan none, .chan none, .chan none, .chan none, .chan none, .chan none, .chan none, .chan none, .chan none] := by
        rintro r' m rfl n rfl L2 hs2
        refine ⟨r', by rw [← byteCells_append] at hs2; exact hs2, ?_⟩
        unfold sl8
        rw [List.length_append]
      repeat refine LS.seq ?_
      refine LS.block ?_
      by_cases g12 : c = 34 ∨ c = 92
      · refine LS.seq ?_
        refine LS.mid [0, 5, 6, 7, 61] (fun a L2 => L2 = u8s r acc :: L'' ∧ a = [str w, .chan none, .chan none, .chan none, .chan none, sl8 r acc, .int .i64 (j : Nat), .int .u8 (c.toNat : Nat), .chan none, .chan none, .chan none, .chan none, .chan none, .chan none, .chan none, .chan none, .chan none, .chan none, .chan none, .chan none, .chan none, .chan none, .chan none, .chan none, .chan none, .chan none, .chan none, .chan none, .chan none, .chan none, .chan none, .chan none, .chan none, .chan none, .chan none, .chan none, .chan none, .chan none, .chan none, .chan none, .chan none, .chan none, .chan none, .chan none, .chan none, .chan none, .chan none, .chan none, .chan none, .chan none, .chan none, .chan none, .chan none, .chan none, .chan none, .chan none, .chan none, .chan none, .chan none, .chan none, .chan none, .bool true, .chan none, .chan none, .chan none, .chan none, .chan none, .chan none, .chan none, .chan none, .chan none, .chan none, .chan none, .chan none, .chan none, .chan none, .chan none, .chan none, .chan none, .chan none, .chan none, .chan none, .chan none, .chan none, .chan none, .chan none, .chan none, .chan none, .chan none, .chan none, .chan none, .chan none, .chan none, .chan none, .chan none, .chan none, .chan none, .chan none, .chan none]) ?_ ?_
        · by_cases g1 : c = 34
          · subst g1
            refine LS.region rfl ?_
            refine OS.pure rfl (fun _ => rfl) rfl ?_
            refine OS.pure rfl (fun _ => rfl) rfl ?_
            refine OS.pure rfl (fun _ => rfl) rfl ?_
            refine OS.skip rfl rfl ?_
            refine OS.skip rfl rfl ?_
            refine OS.pure rfl (fun _ => rfl) rfl ?_
            refine OS.pure rfl (fun _ => rfl) rfl ?_
            refine OS.nil ?_
            exact ⟨rfl, rfl⟩
          · obtain rfl : c = 92 := g12.resolve_left g1
            refine LS.region rfl ?_
            refine OS.pure rfl (fun _ => rfl) rfl ?_
            refine OS.pure rfl (fun _ => rfl) rfl ?_
            refine OS.pure rfl (fun _ => rfl) rfl ?_
            refine OS.pure rfl (fun _ => rfl) rfl ?_
            refine OS.pure rfl (fun _ => rfl) rfl ?_
            refine OS.pure rfl (fun _ => rfl) rfl ?_
            refine OS.pure rfl (fun _ => rfl) rfl ?_
            refine OS.nil ?_
            exact ⟨rfl, rfl⟩
        rintro a L2 ⟨rfl, rfl⟩
        repeat refine LS.seq ?_
        refine LS.cond rfl (fun h => ?_) (fun h => ?_)
        · repeat refine LS.seq ?_
          refine LS.region rfl ?_
          refine OS.pure rfl (fun _ => rfl) rfl ?_
          refine OS.pure rfl (fun _ => rfl) rfl ?_
          refine OS.fresh rfl (e_new (fun _ => rfl) rfl) (fun _ => rfl) (fun r2 => ?_)
          refine OS.fresh rfl (e_appendGV [(r2, _)] (F := L'') (e := 5) (cs := byteCells acc) (n := acc.length) (m := 2) (sz := 1) (bts := 1) (GV.of (by rw [byteCells_len]; omega)) (SV.row (sz := 1) (n := 2) (List.mem_cons_self ..) rfl) (by omega) rfl rfl rfl rfl (by omega) (by omega)) (fun _ => rfl) (fun r3 => ?_)
          refine OS.pure rfl (fun _ => rfl) rfl ?_
          refine OS.sub (Sub.drop 1 rfl) ?_
          refine OS.nil ?_
          exact fin r3 [92, c] (by simp [markE, g12]) _ rfl _ Sub.self
        · cases h
      have n1 : c ≠ 34 := fun e => g12 (.inl e)
      have n2 : c ≠ 92 := fun e => g12 (.inr e)
      have b1 : ieqB (c.toNat : Int) 34 = false := by rw [ieqB_eq]; simp [← UInt8.toNat_inj] at n1 ⊢; omega
      have b2 : ieqB (c.toNat : Int) 92 = false := by rw [ieqB_eq]; simp [← UInt8.toNat_inj] at n2 ⊢; omega
      repeat refine LS.seq ?_
      refine LS.region rfl ?_
      refine OS.pure rfl (fun _ => rfl) rfl ?_
      refine OS.pure rfl (e_is (fun _ => rfl) (congrArg Value.bool b1)) rfl ?_
      refine OS.pure rfl (fun _ => rfl) rfl ?_
      refine OS.pure rfl (fun _ => rfl) rfl ?_
      refine OS.pure rfl (e_is (fun _ => rfl) (congrArg Value.bool b2)) rfl ?_
      refine OS.pure rfl (fun _ => rfl) rfl ?_
      refine OS.pure rfl (fun _ => rfl) rfl ?_
      refine OS.nil ?_
      repeat refine LS.seq ?_
      refine LS.cond rfl (fun h => ?_) (fun h => ?_)
      · cases h
      repeat refine LS.seq ?_
      refine LS.region rfl ?_
      refine OS.pure rfl (fun _ => rfl) rfl ?_
      refine OS.pure rfl (fun _ => rfl) rfl ?_
      refine OS.pure rfl (fun _ => rfl) rfl ?_
      refine OS.nil ?_
      repeat refine LS.seq ?_
      refine LS.cond rfl (fun g3 => ?_) (fun g3 => ?_)
      · have g3 := is_u8 10 g3 rfl
        repeat refine LS.seq ?_
        refine LS.region rfl ?_
        refine OS.pure rfl (fun _ => rfl) rfl ?_
        refine OS.fresh rfl (e_new (fun _ => rfl) rfl) (fun _ => rfl) (fun r2 => ?_)
        refine OS.fresh rfl (e_appendGV [(r2, _)] (F := L'') (e := 5) (cs := byteCells acc) (n := acc.length) (m := 2) (sz := 1) (bts := 1) (GV.of (by rw [byteCells_len]; omega)) (SV.row (sz := 1) (n := 2) (List.mem_cons_self ..) rfl) (by omega) rfl rfl rfl rfl (by omega) (by omega)) (fun _ => rfl) (fun r3 => ?_)
        refine OS.pure rfl (fun _ => rfl) rfl ?_
        refine OS.sub (Sub.drop 1 rfl) ?_
        refine OS.nil ?_
        exact fin r3 [92, 110] (by simp [markE, n1, n2, g3]) _ rfl _ Sub.self
      have g3 := not_u8 10 g3 rfl
      repeat refine LS.seq ?_
      refine LS.region rfl ?_
      refine OS.pure rfl (fun _ => rfl) rfl ?_
      refine OS.pure rfl (fun _ => rfl) rfl ?_
      refine OS.pure rfl (fun _ => rfl) rfl ?_
      refine OS.nil ?_
      repeat refine LS.seq ?_
      refine LS.cond rfl (fun g4 => ?_) (fun g4 => ?_)
      · have g4 := is_u8 9 g4 rfl
        repeat refine LS.seq ?_
        refine LS.region rfl ?_
        refine OS.pure rfl (fun _ => rfl) rfl ?_
        refine OS.fresh rfl (e_new (fun _ => rfl) rfl) (fun _ => rfl) (fun r2 => ?_)
        refine OS.fresh rfl (e_appendGV [(r2, _)] (F := L'') (e := 5) (cs := byteCells acc) (n := acc.length) (m := 2) (sz := 1) (bts := 1) (GV.of (by rw [byteCells_len]; omega)) (SV.row (sz := 1) (n := 2) (List.mem_cons_self ..) rfl) (by omega) rfl rfl rfl rfl (by omega) (by omega)) (fun _ => rfl) (fun r3 => ?_)
        refine OS.pure rfl (fun _ => rfl) rfl ?_
        refine OS.sub (Sub.drop 1 rfl) ?_
        refine OS.nil ?_
        exact fin r3 [92, 116] (by simp [markE, n1, n2, g3, g4]) _ rfl _ Sub.self
      have g4 := not_u8 9 g4 rfl
      refine LS.seq ?_
      refine LS.mid [0, 5, 6, 7, 84] (fun a L2 => L2 = u8s r acc :: L'' ∧ a = [str w, .chan none, .chan none, .chan none, .chan none, sl8 r acc, .int .i64 (j : Nat), .int .u8 (c.toNat : Nat), .chan none, .chan none, .chan none, .chan none, .chan none, .chan none, .chan none, .chan none, .chan none, .chan none, .chan none, .chan none, .chan none, .chan none, .chan none, .chan none, .chan none, .chan none, .chan none, .chan none, .chan none, .chan none, .chan none, .chan none, .chan none, .chan none, .chan none, .chan none, .chan none, .chan none, .chan none, .chan none, .chan none, .chan none, .chan none, .chan none, .chan none, .chan none, .chan none, .chan none, .chan none, .chan none, .chan none, .chan none, .chan none, .chan none, .chan none, .chan none, .chan none, .chan none, .chan none, .chan none, .chan none, .chan none, .chan none, .chan none, .chan none, .chan none, .chan none, .chan none, .chan none, .chan none, .chan none, .chan none, .chan none, .chan none, .chan none, .chan none, .chan none, .chan none, .chan none, .chan none, .chan none, .chan none, .chan none, .chan none, .bool (isS c), .chan none, .chan none, .chan none, .chan none, .chan none, .chan none, .chan none, .chan none, .chan none, .chan none, .chan none, .chan none, .chan none, .chan none]) ?_ ?_
      · by_cases h1 : 32 ≤ c.toNat
        · have c1 : ileB 32 (c.toNat : Int) = true := by rw [ileB_eq]; simp; omega
          have c2 : ileB (c.toNat : Int) 126 = isS c := by simp only [isS, h1, decide_true, Bool.true_and]; rw [ileB_eq, Bool.eq_iff_iff]; simp; omega
          refine LS.region rfl ?_
          refine OS.pure rfl (fun _ => rfl) rfl ?_
          refine OS.pure rfl (e_is (fun _ => rfl) (congrArg Value.bool c1)) rfl ?_
          refine OS.pure rfl (fun _ => rfl) rfl ?_
          refine OS.pure rfl (fun _ => rfl) rfl ?_
          refine OS.pure rfl (e_is (fun _ => rfl) (congrArg Value.bool c2)) rfl ?_
          refine OS.pure rfl (fun _ => rfl) rfl ?_
          refine OS.pure rfl (fun _ => rfl) rfl ?_
          refine OS.nil ?_
          exact ⟨rfl, rfl⟩
        · have c1 : ileB 32 (c.toNat : Int) = false := by rw [ileB_eq]; simp; omega
          have c2 : isS c = false := by simp [isS, h1]
          rw [c2]
          refine LS.region rfl ?_
          refine OS.pure rfl (fun _ => rfl) rfl ?_
          refine OS.pure rfl (e_is (fun _ => rfl) (congrArg Value.bool c1)) rfl ?_
          refine OS.pure rfl (fun _ => rfl) rfl ?_
          refine OS.skip rfl rfl ?_
          refine OS.skip rfl rfl ?_
          refine OS.pure rfl (fun _ => rfl) rfl ?_
          refine OS.pure rfl (fun _ => rfl) rfl ?_
          refine OS.nil ?_
          exact ⟨rfl, rfl⟩
      rintro a L2 ⟨rfl, rfl⟩
      repeat refine LS.seq ?_
      refine LS.cond rfl (fun g5 => ?_) (fun g5 => ?_)
      · have g5 : isS c = true := g5
        repeat refine LS.seq ?_
        refine LS.region rfl ?_
        refine OS.pure rfl (fun _ => rfl) rfl ?_
        refine OS.pure rfl (fun _ => rfl) rfl ?_
        refine OS.fresh rfl (e_new (fun _ => rfl) rfl) (fun _ => rfl) (fun r2 => ?_)
        refine OS.fresh rfl (e_appendGV [(r2, _)] (F := L'') (e := 5) (cs := byteCells acc) (n := acc.length) (m := 1) (sz := 1) (bts := 1) (GV.of (by rw [byteCells_len]; omega)) (SV.row (sz := 1) (n := 1) (List.mem_cons_self ..) rfl) (by omega) rfl rfl rfl rfl (by omega) (by omega)) (fun _ => rfl) (fun r3 => ?_)
        refine OS.pure rfl (fun _ => rfl) rfl ?_
        refine OS.sub (Sub.drop 1 rfl) ?_
        refine OS.nil ?_
        exact fin r3 [c] (by simp [markE, n1, n2, g3, g4, g5]) _ rfl _ Sub.self
      have g5 : isS c = false := g5
      repeat refine LS.seq ?_
      refine LS.drawn noGo mixed [(0, false), (1, false), (2, false), (3, false), (4, false), (5, false), (6, false), (7, true), (8, true), (9, false)] rfl rfl (by kernel_rfl) ?_
      refine ODS.pure rfl rfl (fun _ => rfl) rfl ?_
      refine ODS.pure rfl rfl (fun _ => rfl) rfl ?_
      refine ODS.pure rfl rfl (e_quo (m := c.toNat) (n := 16) rfl rfl rfl (by decide) (in_u8 (by omega) (by omega))) rfl ?_
      refine ODS.pure rfl rfl (e_byte (s := hexS) (j := c.toNat / 16) rfl rfl rfl rfl (hexS_at (by omega))) rfl ?_
      refine ODS.pure rfl rfl (fun _ => rfl) rfl ?_
      refine ODS.pure rfl rfl (e_rem (m := c.toNat) (n := 16) rfl rfl rfl (by decide)) rfl ?_
      refine ODS.pure rfl rfl (e_byte (s := hexS) (j := c.toNat % 16) rfl rfl rfl rfl (hexS_at (by omega))) rfl ?_
      refine ODS.fresh rfl rfl (e_new (fun _ => rfl) rfl) (fun _ => rfl) (fun _ => Keep.nil) (fun r2 => ?_)
      refine ODS.fresh rfl rfl (e_appendGV [(r2, _)] (F := L'') (e := 5) (cs := byteCells acc) (n := acc.length) (m := 4) (sz := 1) (bts := 1) (GV.of (by rw [byteCells_len]; omega)) (SV.row (sz := 1) (n := 4) (List.mem_cons_self ..) rfl) (by omega) rfl rfl rfl rfl (by omega) (by omega)) (fun _ => rfl) (fun _ => Keep.nil) (fun r3 => ?_)
      refine ODS.pure rfl rfl (fun _ => rfl) rfl ?_
      refine ODS.nil ?_
      exact fin r3 [92, 120, hexC (c.toNat / 16), hexC (c.toNat % 16)] (by simp [markE, n1, n2, g3, g4, g5]) _ rfl _ (Sub.drop 1 rfl)
    rintro a L2 ⟨r', hsub, rfl⟩
    refine LS.sub hsub ?_
    repeat refine LS.seq ?_
    refine LS.region rfl ?_
    refine OS.pure rfl (fun _ => rfl) rfl ?_
    refine OS.pure rfl (e_add (m := (j : Int)) (n := 1) rfl rfl rfl (in_i64 (by omega) (by omega))) rfl ?_
    rw [show ((j : Nat) : Int) + 1 = ((j + 1 : Nat) : Int) by omega]
    refine OS.pure rfl (fun _ => rfl) rfl ?_
    refine OS.nil ?_
    exact ⟨w.length - (j + 1), by omega, j + 1, r', rfl, by omega, by rw [hE], by rw [hE]; rfl⟩
  · have hc : (w.length : Int) ≤ j := nlt_of hc
    rw [List.take_of_length_le (by omega)]
    have hm := (marks_len w).2
    refine LS.exit ?_
    repeat refine LS.seq ?_
    refine LS.region rfl ?_
    refine OS.pure rfl (fun _ => rfl) rfl ?_
    refine OS.fresh rfl (e_new (fun _ => rfl) rfl) (fun _ => rfl) (fun r2 => ?_)
    refine OS.fresh rfl (e_appendGV [(r2, _)] (F := L'') (e := 5) (cs := byteCells ([34] ++ w.flatMap markE)) (n := ([34] ++ w.flatMap markE).length) (m := 1) (sz := 1) (bts := 1) (GV.of (by rw [byteCells_len]; omega)) (SV.row (sz := 1) (n := 1) (List.mem_cons_self ..) rfl) (by omega) rfl rfl rfl rfl (by rw [List.length_append]; simp only [List.length_cons, List.length_nil]; omega) (by rw [List.length_append]; simp only [List.length_cons, List.length_nil]; omega)) (fun _ => rfl) (fun r3 => ?_)
    have hF : ownF w = [34] ++ w.flatMap markE ++ [34] := by simp [ownF, hp]
    have hFl : (ownF w).length = ([34] ++ w.flatMap markE).length + 1 := by rw [hF, List.length_append]; rfl
    rw [show byteCells ([34] ++ w.flatMap markE) ++ [Value.int .u8 34] = byteCells (ownF w) by rw [show ownF w = [34] ++ w.flatMap markE ++ [34] by simp [ownF, hp], byteCells_append ([34] ++ w.flatMap markE)]; rfl]
    refine OS.read rfl (e_textSV (n := ([34] ++ w.flatMap markE).length + 1) (bs := ownF w) (SV.row (e := 5) (r := r3) (List.mem_cons_self ..) (by rw [byteCells_len, hFl]; omega)) rfl rfl rfl rfl rfl) rfl ?_
    refine OS.pure rfl (fun _ => rfl) rfl ?_
    refine OS.nil ?_
    refine LS.ret ⟨_, fun _ _ => rfl, ?_⟩
    exact ⟨rfl, ⟨[_, _], List.perm_append_comm (l₁ := [_, _]) (l₂ := L'')⟩⟩

/-- The document's Join. -/
theorem refJoin_ct {L : RL} {v : Value} {ws : List (List UInt8)} (hv : SV 1 L v ws.length (strs ws)) (hn : ws.length ≤ 9000000000000000) (hw : ∀ j, j < 1000 → ∀ w, ws[j]? = some w → w.length ≤ 5000) :
    CS Tryd.prog 15 [v] L fun u L' => u = joinV ws ∧ L' = L := by
  refine CS.mk (fn := Tryd.f15) rfl rfl rfl rfl ?_
  repeat refine LS.seq ?_
  refine LS.region rfl ?_
  refine OS.pure rfl (fun _ => rfl) rfl ?_
  refine OS.pure rfl (fun _ => rfl) rfl ?_
  refine OS.nil ?_
  repeat refine LS.seq ?_
  refine LS.region rfl ?_
  refine OS.pure rfl (fun _ => rfl) rfl ?_
  refine OS.nil ?_
  repeat refine LS.seq ?_
  refine LS.region rfl ?_
  refine OS.pure rfl (fun _ => rfl) rfl ?_
  refine OS.nil ?_
  repeat refine LS.seq ?_
  refine LS.block ?_
  refine LS.loopJ [0, 4, 5] (fun q a L' => ∃ (j : Nat) (acc : List UInt8), q = ws.length - j ∧ j ≤ ws.length ∧ acc.length ≤ 400 ∧ (j ≤ acc.length) ∧ joinW ws = jn acc (j == 0) (ws.drop j) ∧ L' = L ∧ a = [v, .chan none, .chan none, .chan none, str acc, .int .i64 (j : Nat), .chan none, .chan none, .chan none, .chan none, .chan none, .chan none, .chan none, .chan none, .chan none, .chan none, .chan none, .chan none, .chan none, .chan none, .chan none, .chan none, .chan none, .chan none, .chan none, .chan none, .chan none]) (n := ws.length) rfl ⟨0, [], rfl, by omega, by simp, by simp, rfl, rfl, rfl⟩ ?_
  rintro q a L' ⟨j, acc, rfl, hj, ha, hja, hjn, rfl, rfl⟩
  repeat refine LS.seq ?_
  refine LS.region rfl ?_
  refine OS.pure rfl (fun _ => rfl) rfl ?_
  refine OS.pure rfl (fun _ => rfl) rfl ?_
  refine OS.pure rfl (e_len hv rfl rfl rfl rfl rfl) rfl ?_
  refine OS.pure rfl (fun _ => rfl) rfl ?_
  refine OS.nil ?_
  repeat refine LS.seq ?_
  refine LS.cond rfl (fun hc => ?_) (fun hc => ?_)
  · have hc : (j : Int) < ws.length := lt_of hc
    have hjl : j < ws.length := by omega
    have hd : ws.drop j = ws[j] :: ws.drop (j + 1) := List.drop_eq_getElem_cons hjl
    have hget := strs_at hjl
    have hwl : (ws[j]'hjl).length ≤ 5000 := hw j (by omega) _ (List.getElem?_eq_getElem hjl)
    generalize ws[j] = w at hd hget hwl
    have hol := ownF_len w
    have hne : 1 ≤ (ownF w).length := List.length_pos_iff.2 (ownF_ne w)
    refine LS.skip ?_
    repeat refine LS.seq ?_
    refine LS.mid [0, 4, 5] (fun a L2 => ∃ acc', acc'.length ≤ 100000 ∧ j + 1 ≤ acc'.length ∧ joinW ws = (if acc'.length ≤ 400 then jn acc' false (ws.drop (j + 1)) else none) ∧ acc'.length ≤ 400 ∧ L2 = L' ∧ a = [v, .chan none, .chan none, .chan none, str acc', .int .i64 (j : Nat), .chan none, .chan none, .chan none, .chan none, .chan none, .chan none, .chan none, .chan none, .chan none, .chan none, .chan none, .chan none, .chan none, .chan none, .chan none, .chan none, .chan none, .chan none, .chan none, .chan none, .chan none]) ?_ ?_
    · repeat refine LS.seq ?_
      refine LS.block ?_
      repeat refine LS.seq ?_
      refine LS.region rfl ?_
      refine OS.pure rfl (fun _ => rfl) rfl ?_
      refine OS.pure rfl (fun _ => rfl) rfl ?_
      refine OS.nil ?_
      refine LS.mid [0, 4, 5] (fun a L2 => L2 = L' ∧ a = [v, .chan none, .chan none, .chan none, str (if (j == 0) = true then acc else acc ++ [32]), .int .i64 (j : Nat), .chan none, .chan none, .chan none, .chan none, .chan none, .chan none, .chan none, .chan none, .chan none, .chan none, .chan none, .chan none, .chan none, .chan none, .chan none, .chan none, .chan none, .chan none, .chan none, .chan none, .chan none]) ?_ ?_
      · repeat refine LS.seq ?_
        refine LS.cond rfl (fun h0 => ?_) (fun h0 => ?_)
        · have h0 : (0 : Int) < j := lt_of h0
          have hz : (j == 0) = false := by simp; omega
          repeat refine LS.seq ?_
          refine LS.region rfl ?_
          refine OS.pure rfl (fun _ => rfl) rfl ?_
          refine OS.pure rfl (e_cat (xs := acc) (ys := [32]) rfl rfl rfl (by simp; omega)) rfl ?_
          refine OS.pure rfl (fun _ => rfl) rfl ?_
          refine OS.nil ?_
          rw [hz]
          exact ⟨rfl, rfl⟩
        · have h0 : (j : Int) ≤ 0 := nlt_of h0
          have hz : (j == 0) = true := by simp; omega
          refine LS.skip ⟨rfl, ?_⟩
          rw [hz]; rfl
      rintro a L2 ⟨rfl, rfl⟩
      have hal : (if (j == 0) = true then acc else acc ++ [32]).length ≤ 401 ∧ j ≤ (if (j == 0) = true then acc else acc ++ [32]).length := by
        split
        · omega
        · rw [List.length_append]; simp only [List.length_cons, List.length_nil]; omega
      rw [hd] at hjn
      simp only [jn] at hjn
      generalize (if (j == 0) = true then acc else acc ++ [32]) = ac at hal hjn
      have hlen : (ac ++ ownF w).length = ac.length + (ownF w).length := List.length_append
      repeat refine LS.seq ?_
      refine LS.region rfl ?_
      refine OS.pure rfl (fun _ => rfl) rfl ?_
      refine OS.pure rfl (fun _ => rfl) rfl ?_
      refine OS.pure rfl (fun _ => rfl) rfl ?_
      refine OS.at1 hv hget rfl rfl rfl rfl rfl rfl (fun r off row cs₀ m1 m2 m3 => ⟨_, rfl, ?_⟩)
      refine OS.read rfl (e_loadm m1 m2 rfl rfl (part_one rfl m3)) rfl ?_
      refine OS.call noGo rfl (fun _ => rfl) ((refOwn_ct w (by omega)).mono ?_)
      rintro v' L₃ ⟨rfl, rfl⟩
      refine ⟨_, rfl, ?_⟩
      refine OS.pure rfl (e_cat (xs := ac) (ys := ownF w) rfl rfl rfl (by omega)) rfl ?_
      refine OS.pure rfl (fun _ => rfl) rfl ?_
      refine OS.nil ?_
      by_cases h4 : (ac ++ ownF w).length ≤ 400
      · have b4 : (!ileB ((ac ++ ownF w).length : Int) 400) = false := by rw [ileB_eq]; simp only [Bool.not_eq_false', decide_eq_true_eq]; omega
        repeat refine LS.seq ?_
        refine LS.region rfl ?_
        refine OS.pure rfl (fun _ => rfl) rfl ?_
        refine OS.pure rfl (fun _ => rfl) rfl ?_
        refine OS.pure rfl (e_is (fun _ => rfl) (congrArg Value.bool b4)) rfl ?_
        refine OS.nil ?_
        repeat refine LS.seq ?_
        refine LS.cond rfl (fun h => ?_) (fun h => ?_)
        · cases h
        refine LS.skip ⟨ac ++ ownF w, by omega, by omega, by rw [hjn], h4, rfl, rfl⟩
      · have b4 : (!ileB ((ac ++ ownF w).length : Int) 400) = true := by rw [ileB_eq]; simp only [Bool.not_eq_true', decide_eq_false_iff_not]; omega
        repeat refine LS.seq ?_
        refine LS.region rfl ?_
        refine OS.pure rfl (fun _ => rfl) rfl ?_
        refine OS.pure rfl (fun _ => rfl) rfl ?_
        refine OS.pure rfl (e_is (fun _ => rfl) (congrArg Value.bool b4)) rfl ?_
        refine OS.nil ?_
        repeat refine LS.seq ?_
        refine LS.cond rfl (fun h => ?_) (fun h => ?_)
        · repeat refine LS.seq ?_
          refine LS.region rfl ?_
          refine OS.pure rfl (fun _ => rfl) rfl ?_
          refine OS.pure rfl (fun _ => rfl) rfl ?_
          refine OS.nil ?_
          refine LS.ret ⟨_, fun _ _ => rfl, ?_⟩
          rw [if_neg h4] at hjn
          have hj : joinV ws = .tuple #[str [], .int .i64 40] := by unfold joinV; rw [hjn]
          exact ⟨by rw [hj]; rfl, rfl⟩
        · cases h
    rintro a L2 ⟨acc', h1, h2, h3, h4, rfl, rfl⟩
    rw [if_pos h4] at h3
    repeat refine LS.seq ?_
    refine LS.region rfl ?_
    refine OS.pure rfl (fun _ => rfl) rfl ?_
    refine OS.pure rfl (e_add (m := (j : Int)) (n := 1) rfl rfl rfl (in_i64 (by omega) (by omega))) rfl ?_
    rw [show ((j : Nat) : Int) + 1 = ((j + 1 : Nat) : Int) by omega]
    refine OS.pure rfl (fun _ => rfl) rfl ?_
    refine OS.nil ?_
    exact ⟨ws.length - (j + 1), by omega, j + 1, acc', rfl, by omega, h4, by omega, h3, rfl, rfl⟩
  · have hc : (ws.length : Int) ≤ j := nlt_of hc
    rw [List.drop_eq_nil_of_le (by omega)] at hjn
    simp only [jn] at hjn
    have hj : joinV ws = .tuple #[str acc, .int .i64 0] := by unfold joinV; rw [hjn]
    refine LS.exit ?_
    repeat refine LS.seq ?_
    refine LS.region rfl ?_
    refine OS.pure rfl (fun _ => rfl) rfl ?_
    refine OS.pure rfl (fun _ => rfl) rfl ?_
    refine OS.pure rfl (fun _ => rfl) rfl ?_
    refine OS.nil ?_
    refine LS.ret ⟨_, fun _ _ => rfl, ?_⟩
    exact ⟨by rw [hj]; rfl, rfl⟩

/-- Are words more than a statement goes over? -/
theorem long_ct {L : RL} {v : Value} {ws : List (List UInt8)} (hv : SV 1 L v ws.length (strs ws)) (hn : ws.length ≤ 9000000000000000) (hw : ∀ w ∈ ws, w.length ≤ 140737488351232) :
    CS Tryd.prog 13 [v] L fun u L' => ∃ b, u = .bool b ∧ (b = false → ws.length ≤ 5000 ∧ ∀ j, j < 1000 → ∀ w, ws[j]? = some w → w.length ≤ 5000) ∧ L' = L := by
  refine CS.mk (fn := Tryd.f13) rfl rfl rfl rfl ?_
  repeat refine LS.seq ?_
  refine LS.region rfl ?_
  refine OS.pure rfl (fun _ => rfl) rfl ?_
  refine OS.nil ?_
  repeat refine LS.seq ?_
  refine LS.region rfl ?_
  refine OS.pure rfl (fun _ => rfl) rfl ?_
  refine OS.pure rfl (e_len hv rfl rfl rfl rfl rfl) rfl ?_
  refine OS.pure rfl (fun _ => rfl) rfl ?_
  refine OS.nil ?_
  repeat refine LS.seq ?_
  refine LS.region rfl ?_
  refine OS.pure rfl (fun _ => rfl) rfl ?_
  refine OS.nil ?_
  repeat refine LS.seq ?_
  refine LS.block ?_
  refine LS.loopJ [0, 3, 4] (fun q a L' => ∃ (j m : Nat), q = ws.length - j ∧ j ≤ ws.length ∧ j ≤ 1000 ∧ m ≤ ws.length + j * 140737488351232 ∧ ws.length ≤ m ∧ (∀ i, i < j → ∀ w, ws[i]? = some w → w.length ≤ m) ∧ L' = L ∧ a = [v, .chan none, .chan none, .int .i64 (m : Nat), .int .i64 (j : Nat), .chan none, .chan none, .chan none, .chan none, .chan none, .chan none, .chan none, .chan none, .chan none, .chan none, .chan none, .chan none, .chan none, .chan none, .chan none, .chan none, .chan none, .chan none, .chan none, .chan none, .chan none]) (n := ws.length) rfl ⟨0, ws.length, rfl, by omega, by omega, by omega, by omega, fun i h => by omega, rfl, rfl⟩ ?_
  rintro q a L' ⟨j, m, rfl, hj, hj1, hm, hm2, hall, rfl, rfl⟩
  have fin : (ws.length ≤ j ∨ 1000 ≤ j) → m ≤ 5000 → ws.length ≤ 5000 ∧ ∀ i, i < 1000 → ∀ w, ws[i]? = some w → w.length ≤ 5000 := fun h h5 => ⟨by omega, fun i hi w hg => by
    have hil := (List.getElem?_eq_some_iff.1 hg).1
    have := hall i (by omega) w hg
    omega⟩
  by_cases hc : j < ws.length
  · have hjl := hc
    have b1 : (!ileB (ws.length : Int) (j : Nat)) = true := by rw [ileB_eq]; simp; omega
    by_cases hk : j < 1000
    · have b2 : (!ileB 1000 (j : Int)) = true := by rw [ileB_eq]; simp; omega
      have hget := strs_at hjl
      have hwl := hw _ (List.getElem_mem hjl)
      have hg := List.getElem?_eq_getElem hjl
      generalize ws[j] = w at hget hwl hg
      repeat refine LS.seq ?_
      refine LS.region rfl ?_
      refine OS.pure rfl (fun _ => rfl) rfl ?_
      refine OS.pure rfl (fun _ => rfl) rfl ?_
      refine OS.pure rfl (e_len hv rfl rfl rfl rfl rfl) rfl ?_
      refine OS.pure rfl (e_is (fun _ => rfl) (congrArg Value.bool b1)) rfl ?_
      refine OS.pure rfl (fun _ => rfl) rfl ?_
      refine OS.pure rfl (fun _ => rfl) rfl ?_
      refine OS.pure rfl (e_is (fun _ => rfl) (congrArg Value.bool b2)) rfl ?_
      refine OS.pure rfl (fun _ => rfl) rfl ?_
      refine OS.nil ?_
      repeat refine LS.seq ?_
      refine LS.cond rfl (fun h => ?_) (fun h => ?_)
      · refine LS.skip ?_
        repeat refine LS.seq ?_
        refine LS.block ?_
        repeat refine LS.seq ?_
        refine LS.region rfl ?_
        refine OS.pure rfl (fun _ => rfl) rfl ?_
        refine OS.pure rfl (fun _ => rfl) rfl ?_
        refine OS.pure rfl (fun _ => rfl) rfl ?_
        refine OS.at1 hv hget rfl rfl rfl rfl rfl rfl (fun r off row cs₀ m1 m2 m3 => ⟨_, rfl, ?_⟩)
        refine OS.read rfl (e_loadm m1 m2 rfl rfl (part_one rfl m3)) rfl ?_
        refine OS.pure rfl (fun _ => rfl) rfl ?_
        refine OS.pure rfl (e_add (m := (m : Int)) (n := (w.length : Nat)) rfl rfl rfl (in_i64 (by omega) (by omega))) rfl ?_
        rw [show ((m : Nat) : Int) + (w.length : Nat) = ((m + w.length : Nat) : Int) by omega]
        refine OS.pure rfl (fun _ => rfl) rfl ?_
        refine OS.nil ?_
        repeat refine LS.seq ?_
        refine LS.region rfl ?_
        refine OS.pure rfl (fun _ => rfl) rfl ?_
        refine OS.pure rfl (e_add (m := (j : Int)) (n := 1) rfl rfl rfl (in_i64 (by omega) (by omega))) rfl ?_
        rw [show ((j : Nat) : Int) + 1 = ((j + 1 : Nat) : Int) by omega]
        refine OS.pure rfl (fun _ => rfl) rfl ?_
        refine OS.nil ?_
        refine ⟨ws.length - (j + 1), by omega, j + 1, m + w.length, rfl, by omega, by omega, by omega, by omega, fun i hi w' hg' => ?_, rfl, rfl⟩
        by_cases hij : i = j
        · subst hij
          rw [hg] at hg'
          obtain rfl := Option.some.inj hg'
          omega
        · have := hall i (by omega) w' hg'
          omega
      · cases h
    · have b2 : (!ileB 1000 (j : Int)) = false := by rw [ileB_eq]; simp; omega
      repeat refine LS.seq ?_
      refine LS.region rfl ?_
      refine OS.pure rfl (fun _ => rfl) rfl ?_
      refine OS.pure rfl (fun _ => rfl) rfl ?_
      refine OS.pure rfl (e_len hv rfl rfl rfl rfl rfl) rfl ?_
      refine OS.pure rfl (e_is (fun _ => rfl) (congrArg Value.bool b1)) rfl ?_
      refine OS.pure rfl (fun _ => rfl) rfl ?_
      refine OS.pure rfl (fun _ => rfl) rfl ?_
      refine OS.pure rfl (e_is (fun _ => rfl) (congrArg Value.bool b2)) rfl ?_
      refine OS.pure rfl (fun _ => rfl) rfl ?_
      refine OS.nil ?_
      repeat refine LS.seq ?_
      refine LS.cond rfl (fun h => ?_) (fun h => ?_)
      · cases h
      refine LS.exit ?_
      repeat refine LS.seq ?_
      refine LS.region rfl ?_
      refine OS.pure rfl (fun _ => rfl) rfl ?_
      refine OS.pure rfl (fun _ => rfl) rfl ?_
      refine OS.pure rfl (fun _ => rfl) rfl ?_
      refine OS.nil ?_
      refine LS.ret ⟨_, fun _ _ => rfl, ?_⟩
      exact ⟨_, rfl, fun h => fin (.inr (by omega)) (by have := nlt_of h; omega), rfl⟩
  · have b1 : (!ileB (ws.length : Int) (j : Nat)) = false := by rw [ileB_eq]; simp; omega
    repeat refine LS.seq ?_
    refine LS.region rfl ?_
    refine OS.pure rfl (fun _ => rfl) rfl ?_
    refine OS.pure rfl (fun _ => rfl) rfl ?_
    refine OS.pure rfl (e_len hv rfl rfl rfl rfl rfl) rfl ?_
    refine OS.pure rfl (e_is (fun _ => rfl) (congrArg Value.bool b1)) rfl ?_
    refine OS.pure rfl (fun _ => rfl) rfl ?_
    refine OS.skip rfl rfl ?_
    refine OS.skip rfl rfl ?_
    refine OS.pure rfl (fun _ => rfl) rfl ?_
    refine OS.nil ?_
    repeat refine LS.seq ?_
    refine LS.cond rfl (fun h => ?_) (fun h => ?_)
    · cases h
    refine LS.exit ?_
    repeat refine LS.seq ?_
    refine LS.region rfl ?_
    refine OS.pure rfl (fun _ => rfl) rfl ?_
    refine OS.pure rfl (fun _ => rfl) rfl ?_
    refine OS.pure rfl (fun _ => rfl) rfl ?_
    refine OS.nil ?_
    refine LS.ret ⟨_, fun _ _ => rfl, ?_⟩
    exact ⟨_, rfl, fun h => fin (.inl (by omega)) (by have := nlt_of h; omega), rfl⟩
end Go.Proofs.YtdffhllecojgcaaDoor

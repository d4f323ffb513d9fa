/- Layer 12: a text is read, line by line; Parse. -/
import Derived.Test.YtoadplnbajmcbaaGreatDoorRn
namespace Go.Am
theorem res_cc (i j : Nat) {P : Program} {a : Slots} {L : RL} {x y r off r' off' : Nat} {t t' : TypeId} {row row' : ARow} {cs cs' : List Value} {v u : Value} (hx : a[x]? = some (.pointer (some ⟨r, off, none⟩))) (hL : L[i]? = some (r, row)) (hc : rdRow row = some cs) (hv : partB P t cs off = some v)
    (hy : a[y]? = some (.pointer (some ⟨r', off', none⟩))) (hL' : L[j]? = some (r', row')) (hc' : rdRow row' = some cs') (hv' : partB P t' cs' off' = some u) : ∀ h, Has h L → resultsB P a h [.cell x t, .cell y t'] = some [v, u] := by
  intro h H
  have hl : loadB P t (.pointer (some ⟨r, off, none⟩)) h = some v := by simp only [loadB, H.read hL hc, hv]
  have hl' : loadB P t' (.pointer (some ⟨r', off', none⟩)) h = some u := by simp only [loadB, H.read hL' hc', hv']
  simp only [resultsB, hx, hl, hy, hl']
end Go.Am
namespace Go.Proofs.YtoadplnbajmcbaaGreatDoor
open Go.Am Go.Pd
set_option linter.unusedVariables false
set_option maxRecDepth 20000
set_option maxHeartbeats 4000000
attribute [local irreducible] OS LSr ODS CS YS
section
variable {F L Y B : RL} {rd : Nat} {d : Dc}
theorem DS.split (h : DS rd d Y B F L) : ∃ C, L = C ++ F ∧ ∀ F', (∀ p, p ∈ B → p ∈ F') → DS rd d Y B F' (C ++ F') := by
  obtain ⟨rr, rc, rs, es, ck, ec, kc, em, km, hv, sv, HY, SY, IY, fc, fm, rfl, hBF, hr⟩ := h.ex
  refine ⟨(rd, dRow hv sv rr rc rs) :: (rr, .map es ck) :: (rc, .map ec kc) :: (rs, .map em km) :: (HY ++ (SY ++ (IY ++ Y))), by simp, fun F' hB => ⟨rr, rc, rs, es, ck, ec, kc, em, km, hv, sv, HY, SY, IY, fc, fm, by simp, hB, hr⟩⟩
theorem cuts_count (c : UInt8) : ∀ s : W, (cuts c s).length ≤ s.length + 1
  | [] => by simp [cuts]
  | b :: t => by
    have := cuts_count c t
    unfold cuts
    split
    · simp; omega
    · cases h : cuts c t with
      | nil => simp
      | cons x r => rw [h] at this; simp at this ⊢; omega
theorem readL_E {no : Nat} {s : W} {r : List W} : readL chk spD no d (s :: r) = match readE d (no : Int) s with
  | .error e => .error (no, e)
  | .ok d' => readL chk spD (no + 1) d' r := by
  unfold readE
  rw [readL]
  cases spD s with
  | error e => rfl
  | ok l => cases l with
    | nil => rfl
    | cons w a => rfl
abbrev tD : Nat := 26
/-- A description in memory. -/
def DocV (M : RL) (v : Value) (d : Dc) : Prop := ∃ hv sv hcs scs, v = .agg #[hv, sv] ∧ SV 3 M hv d.head.length hcs ∧ ItsR M d.head hcs ∧ SV 4 M sv d.secs.length scs ∧ SecsR M d.secs scs
theorem forms_of {M HY SY IY : RL} {hv sv : Value} (h : DocM tI tS M hv sv d HY SY IY) : (∃ A n c, hv = .slice A n c) ∧ ∃ A n c, sv = .slice A n c := by
  cases h with
  | none hh hi => exact ⟨by rcases hh with ⟨rfl, _⟩ | ⟨r, rfl, _⟩ <;> exact ⟨_, _, _, rfl⟩, _, _, _, rfl⟩
  | some hh hi hS hg hy => exact ⟨by rcases hh with ⟨rfl, _⟩ | ⟨r, rfl, _⟩ <;> exact ⟨_, _, _, rfl⟩, _, _, _, rfl⟩
theorem isagg_doc : isAggB Tryz.prog tD = some true := by kernel_rfl
theorem size_doc : sizeB Tryz.prog tD = some 2 := by kernel_rfl
theorem part_doc {hv sv a b c : Value} : Go.Am.partB Tryz.prog tD [hv, sv, a, b, c] 0 = some (.agg #[hv, sv]) := by
  unfold Go.Am.partB
  rw [isagg_doc, size_doc]; rfl
theorem doc_of {M HY SY IY : RL} {hv sv : Value} (h : DocM tI tS M hv sv d HY SY IY) (hm : ∀ p, p ∈ M → p ∈ L) (h1 : ∀ p, p ∈ HY → p ∈ L) (h2 : ∀ p, p ∈ SY → p ∈ L) (h3 : ∀ p, p ∈ IY → p ∈ L) : DocV L (.agg #[hv, sv]) d := by
  cases h with
  | none hh hi => exact ⟨_, _, _, [], rfl, hh.sv.up h1, hi.mono hm, .inl ⟨rfl, rfl, rfl⟩, rfl⟩
  | some hh hi hS hg hy =>
    rename_i hd cs S y cs0 ics iv rS
    have hl := hS.len
    have hgs : GV tS 4 [] (.slice (some ⟨rS, 0, none⟩) (S.length + 1) openCap) (S.length + 1) (cs0 ++ secC y.no y.kind y.name iv) ((rS, .cells tS (cs0 ++ secC y.no y.kind y.name iv)) :: []) := .inr ⟨rS, rfl, by simp [hl]; omega, rfl⟩
    exact ⟨_, _, _, _, rfl, hh.sv.up h1, hi.mono hm, by rw [List.length_append]; exact hgs.sv.up h2, (hS.mono hm).snoc ⟨hg.sv.up h3, hy.mono hm⟩⟩
theorem dread2_ct {g : Gn} (hG : GL g F) (hG0 : GL g B) (hB : ∀ p, p ∈ B → p ∈ F) {s : W} (hs : s.length ≤ 1000000000000) : CS Tryz.prog 46 [str s] F fun v L' => match readL chk spD 1 ⟨[], []⟩ (segs s) with
    | .error (no, e) => v = .tuple #[.agg #[.slice none 0 0, .slice none 0 0], fV no e] ∧ Ends F L'
    | .ok d => ∃ u Z, v = .tuple #[u, .nilIface] ∧ L' = Z ++ F ∧ DocV (Z ++ B) u d := by
  rw [segs_cuts]
  refine CS.mk (fn := Tryz.f46) rfl rfl rfl rfl ?_
  refine yG ?_
  refine OS.fresh rfl (e_new (fun _ => rfl) rfl) (fun _ => rfl) (fun r2 => ?_)
  show OS _ _ _ _ ((r2, ARow.cells tD [.slice none 0 0, .slice none 0 0]) :: _) _
  refine yG ?_
  refine OS.fresh rfl (e_new (fun _ => rfl) rfl) (fun _ => rfl) (fun r3 => ?_)
  show OS _ _ _ _ ((r3, ARow.cells 94 [.nilIface]) :: _) _
  refine yG ?_
  refine OS.call noGo rfl (fun _ => rfl) ((newDraft_ct (B := B) ((hG.mono fun p hp => List.mem_cons_of_mem _ hp).mono fun p hp => List.mem_cons_of_mem _ hp) hG0 (fun p hp => List.mem_cons_of_mem _ (List.mem_cons_of_mem _ (hB p hp)))).mono ?_)
  rintro v L₀ ⟨rd, Y₀, rfl, hD₀⟩
  obtain ⟨C₀, rfl, hC₀⟩ := hD₀.split
  refine ⟨_, rfl, ?_⟩
  refine yG ?_
  refine OS.fresh rfl (e_new (fun _ => rfl) rfl) (fun _ => rfl) (fun r4 => ?_)
  refine yG ?_
  refine OS.fresh rfl (e_new (fun _ => rfl) rfl) (fun _ => rfl) (fun r5 => ?_)
  refine yG ?_
  refine OS.call noGo rfl (fun _ => rfl) ((SplitSeq_ct s 10).mono ?_)
  rintro v L' ⟨rs, rp, rz, rfl, rfl⟩
  refine ⟨_, rfl, ?_⟩
  refine yG ?_
  refine LS.rangeFunc noGo rfl (fun r => ?_)
  generalize hp0 : LP.start _ _ _ _ = p0
  refine CS.sub (Sub.sums (A := (rz, iRow 0) :: (rp, sRow [10]) :: (rs, sRow s) :: (r, .loop p0) :: (r5, .cells 3 [.int .i64 ((0 : Nat) : Int)]) :: (r4, .cells 163 [ptr rd]) :: (r3, .cells 94 [.nilIface]) :: (r2, .cells tD [.slice none 0 0, .slice none 0 0]) :: (C₀ ++ F)) fun f => by simp <;> omega) ((split1_ct (s := s) (c := 10) (r := r) (G := (r, .loop p0) :: (r5, .cells 3 [.int .i64 ((0 : Nat) : Int)]) :: (r4, .cells 163 [ptr rd]) :: (r3, .cells 94 [.nilIface]) :: (r2, .cells tD [.slice none 0 0, .slice none 0 0]) :: (C₀ ++ F)) hs
    (fun k G => ∃ d C, readL chk spD 1 ⟨[], []⟩ (cuts 10 s) = readL chk spD (k + 1) d ((cuts 10 s).drop k) ∧ (∃ Y, ∀ F', (∀ p, p ∈ B → p ∈ F') → DS rd d Y B F' (C ++ F')) ∧ G = (r, .loop p0) :: (r5, .cells 3 [.int .i64 ((k : Nat) : Int)]) :: (r4, .cells 163 [ptr rd]) :: (r3, .cells 94 [.nilIface]) :: (r2, .cells tD [.slice none 0 0, .slice none 0 0]) :: (C ++ F))
    (fun G => ∃ Z no e, readL chk spD 1 ⟨[], []⟩ (cuts 10 s) = .error (no, e) ∧ G = (r, .loop (p0.left .ret)) :: (r5, .cells 3 [.int .i64 ((no : Nat) : Int)]) :: (r4, .cells 163 [ptr rd]) :: (r3, .cells 94 [fV no e]) :: (r2, .cells tD [.slice none 0 0, .slice none 0 0]) :: (Z ++ F))
    (fun k G ⟨_, _, _, _, hG⟩ => ⟨p0, by rw [hG]; simp⟩) ⟨⟨[], []⟩, C₀, rfl, ⟨Y₀, hC₀⟩, rfl⟩ ?_).mono ?_)
  · rintro k w G X hget ⟨d, C, hE, ⟨Y, hD⟩, rfl⟩
    have hklt := (List.getElem?_eq_some_iff.1 hget).1
    have hkl := Nat.lt_of_lt_of_le hklt (cuts_count 10 s)
    have hdrop : (cuts 10 s).drop k = w :: (cuts 10 s).drop (k + 1) := by rw [List.drop_eq_getElem_cons hklt, (List.getElem?_eq_some_iff.1 hget).2]
    have hwl : w.length ≤ 1000000000000 := Nat.le_trans (Go.Pd.cuts_len (List.mem_of_getElem? hget)) hs
    rw [hdrop, readL_E] at hE
    simp only [List.cons_append, List.append_assoc]
    subst hp0
    refine YS.mk 0 rfl rfl rfl ?_
    refine yG ?_
    refine ⟨rfl, 0, _, rfl, rfl, ?_⟩
    generalize hp1 : LP.busy _ = p1
    refine yG ?_
    refine OS.sub (Sub.sums (A := C ++ ((r, .loop p1) :: (r5, .cells 3 [.int .i64 ((k + 1 : Nat) : Int)]) :: (r4, .cells 163 [ptr rd]) :: (r3, .cells 94 [.nilIface]) :: (r2, .cells tD [.slice none 0 0, .slice none 0 0]) :: (F ++ X))) fun f => by simp <;> omega) ?_
    refine OS.call noGo rfl (fun _ => rfl) ((dread_ct (no := ((k + 1 : Nat) : Int)) (hD _ fun p hp => by simp [hB p hp]) (Nat.le_trans hwl (by decide))).mono ?_)
    rintro v L' hres
    refine ⟨_, rfl, ?_⟩
    cases he : readE d ((k + 1 : Nat) : Int) w with
    | error e =>
      rw [he] at hres hE
      obtain ⟨rfl, hne, Z, rfl⟩ := hres
      rw [errV_ne hne]
      unfold eV
      refine OS.sub (Sub.sums (A := (r, .loop p1) :: (r5, .cells 3 [.int .i64 ((k + 1 : Nat) : Int)]) :: (r4, .cells 163 [ptr rd]) :: (r3, .cells 94 [.nilIface]) :: (r2, .cells tD [.slice none 0 0, .slice none 0 0]) :: (Z ++ (F ++ X))) fun f => by simp <;> omega) ?_
      refine yG ?_
      repeat refine LS.seq ?_
      refine LS.drawn noGo mixed [(0, false), (1, false), (2, false), (3, false), (4, false), (5, true), (6, true)] rfl rfl (by kernel_rfl) ?_
      refine yG ?_
      refine ODS.write rfl rfl (e_store 4 rfl rfl rfl rfl rfl rfl rfl rfl) rfl (Keep.cons rfl (e_load 1 rfl rfl rfl rfl rfl) Keep.nil) ?_
      refine yG ?_
      refine ODS.write rfl rfl (e_store 3 rfl rfl rfl rfl rfl rfl rfl rfl) rfl (Keep.gone rfl Keep.nil) ?_
      refine yG ?_
      show LSr _ _ _ _ _ _
      refine LS.ret ?_
      subst hp1
      exact ⟨0, _, rfl, rfl, _, (by simp <;> rfl), .inr ⟨rfl, Z, k + 1, e, hE, rfl⟩⟩
    | ok d' =>
      rw [he] at hres hE
      obtain ⟨rfl, Y', hD'⟩ := hres
      obtain ⟨C', rfl, hC'⟩ := hD'.split
      refine OS.sub (Sub.sums (A := (r, .loop p1) :: (r5, .cells 3 [.int .i64 ((k + 1 : Nat) : Int)]) :: (r4, .cells 163 [ptr rd]) :: (r3, .cells 94 [.nilIface]) :: (r2, .cells tD [.slice none 0 0, .slice none 0 0]) :: (C' ++ (F ++ X))) fun f => by simp <;> omega) ?_
      refine yG ?_
      subst hp1
      exact ⟨0, _, rfl, rfl, _, (by simp <;> rfl), .inl ⟨rfl, d', C', hE, ⟨Y', hC'⟩, rfl⟩⟩
  · rintro v L' ⟨G', t, hj, rfl⟩
    rcases hj with ⟨d, C, hE, ⟨Y, hD⟩, rfl⟩ | ⟨Z, no, e, hE, rfl⟩
    · rw [List.drop_length, readL] at hE
      rw [hE]
      refine ⟨3, p0, _, rfl, rfl, by subst hp0; simp [LP.start], ?_⟩
      have hpend : p0.pending = none := by subst hp0; rfl
      rw [hpend]
      show LSr _ _ _ _ _ _
      obtain ⟨rr, rc, rs', es, ck, ec, kc, em, km, hv, sv, HY, SY, IY, fc, fm, hCF, hBF, hok, hR, hC, hM, hDM⟩ := (hD F hB).ex
      rw [hCF]
      obtain ⟨⟨A1, n1, c1, rfl⟩, A2, n2, c2, rfl⟩ := forms_of hDM
      refine yG ?_
      refine OS.write rfl (e_store 6 rfl rfl rfl rfl rfl rfl rfl rfl) rfl ?_
      refine OS.write rfl (e_store 5 rfl rfl rfl rfl rfl rfl rfl rfl) rfl ?_
      refine yG ?_
      refine LS.ret ⟨_, res_cc 6 5 rfl rfl rfl rfl rfl rfl rfl rfl, ?_⟩
      refine ⟨.agg #[.slice A1 n1 c1, .slice A2 n2 c2], (rz, iRow 0) :: (rp, sRow [10]) :: (rs, sRow t) :: (r5, .cells 3 [.int .i64 (((cuts 10 s).length : Nat) : Int)]) :: (r4, .cells 163 [ptr rd]) :: (r3, .cells 94 [.nilIface]) :: (r2, .cells tD [.slice A1 n1 c1, .slice A2 n2 c2]) :: (rd, dRow (.slice A1 n1 c1) (.slice A2 n2 c2) rr rc rs') :: (rr, .map es ck) :: (rc, .map ec kc) :: (rs', .map em km) :: (HY ++ (SY ++ (IY ++ Y))), rfl, ?_, doc_of hDM ?_ ?_ ?_ ?_⟩
      · simp <;> rfl
      · intro p hp; simp only [List.mem_cons, List.mem_append] at hp ⊢; rcases hp with hp | hp <;> simp [hp]
      · intro p hp; simp [hp]
      · intro p hp; simp [hp]
      · intro p hp; simp [hp]
    · rw [hE]
      refine ⟨3, _, _, rfl, rfl, by simp [LP.left], ?_⟩
      refine ⟨_, res_cc 6 5 rfl rfl rfl rfl rfl rfl rfl rfl, ?_⟩
      exact ⟨rfl, by repeat (first | exact Ends.nil | apply Ends.cons | apply Ends.app)⟩
end
end Go.Proofs.YtoadplnbajmcbaaGreatDoor

/- Layer 4: writes in a row; a group is laid, and finished. -/
import Derived.Test.YteiiekfccecoiaaBJc
namespace Go.Proofs.Yteiiekfccecoiaa
open Go.Am
set_option linter.unusedVariables false
set_option maxRecDepth 20000

/-- Writes in a row, till one is refused. -/
def runW : Dk → List (Int × List UInt8) → Int × Dk
  | s, [] => (0, s)
  | s, w :: r => if (wrD s w.1 w.2).1 = 0 then runW (wrD s w.1 w.2).2 r else wrD s w.1 w.2
/-- What the writes leave of the blocks. -/
def wrs (D : List UInt8) (ws : List (Int × List UInt8)) : List UInt8 := ws.foldl (fun D w => put D w.1.toNat w.2) D
def Fit (n : Nat) (ws : List (Int × List UInt8)) : Prop := ∀ w ∈ ws, 0 ≤ w.1 ∧ w.1 < n ∧ w.2.length = 256
theorem runW_all : ∀ {ws : List (Int × List UInt8)} {s : Dk}, s.dead = false → Fit s.n ws → (s.cut = true → ws.length ≤ s.left) →
    runW s ws = (0, ⟨s.n, wrs s.D ws, s.wr + ws.length, s.cut, if s.cut then s.left - ws.length else s.left, false⟩)
  | [], s, hd, _, _ => by
    obtain ⟨n, D, wr, cut, left, dead⟩ := s
    simp only at hd
    subst hd
    cases cut <;> rfl
  | w :: ws, s, hd, hf, hc => by
    have hw := hf w (by simp)
    have e : wrD s w.1 w.2 = (0, ⟨s.n, put s.D w.1.toNat w.2, s.wr + 1, s.cut, if s.cut then s.left - 1 else s.left, s.dead⟩) := by
      unfold wrD
      rw [if_neg (by simp [hd]), if_neg (by omega), if_neg]
      rintro ⟨h1, h2⟩
      have := hc h1
      simp at this; omega
    simp only [runW, e, if_true]
    have ih := runW_all (ws := ws) (s := ⟨s.n, put s.D w.1.toNat w.2, s.wr + 1, s.cut, if s.cut then s.left - 1 else s.left, s.dead⟩) hd (fun x hx => hf x (List.mem_cons_of_mem _ hx)) (fun h => by
      have h' : s.cut = true := h
      have := hc h'
      simp only [List.length_cons] at this
      show ws.length ≤ if s.cut = true then s.left - 1 else s.left
      rw [if_pos h']; omega)
    rw [ih]
    simp only [wrs, List.foldl_cons, List.length_cons]
    cases hcc : s.cut
    · simp; omega
    · simp; omega
theorem runW_cut : ∀ {ws : List (Int × List UInt8)} {s : Dk}, s.dead = false → Fit s.n ws → s.cut = true → s.left < ws.length →
    runW s ws = (20, ⟨s.n, wrs s.D (ws.take s.left), s.wr + s.left, true, 0, true⟩)
  | [], s, _, _, _, h => by simp at h
  | w :: ws, s, hd, hf, hc, hl => by
    have hw := hf w (by simp)
    by_cases h0 : s.left = 0
    · have e : wrD s w.1 w.2 = (20, ⟨s.n, s.D, s.wr, true, 0, true⟩) := by
        unfold wrD
        rw [if_neg (by simp [hd]), if_neg (by omega), if_pos ⟨hc, h0⟩]
      simp only [runW, e]
      rw [if_neg (show ¬ ((20 : Int) = 0) by decide), h0]
      rfl
    · have e : wrD s w.1 w.2 = (0, ⟨s.n, put s.D w.1.toNat w.2, s.wr + 1, s.cut, s.left - 1, s.dead⟩) := by
        unfold wrD
        rw [if_neg (by simp [hd]), if_neg (by omega), if_neg (fun h => h0 h.2)]
        simp [hc]
      simp only [runW, e, if_true]
      have ih := runW_cut (ws := ws) (s := ⟨s.n, put s.D w.1.toNat w.2, s.wr + 1, s.cut, s.left - 1, s.dead⟩) hd (fun x hx => hf x (List.mem_cons_of_mem _ hx)) hc (by
        show s.left - 1 < ws.length
        simp only [List.length_cons] at hl
        omega)
      rw [ih]
      obtain ⟨k, hk⟩ : ∃ k, s.left = k + 1 := ⟨s.left - 1, by omega⟩
      simp only [hk, Nat.add_sub_cancel, List.take_succ_cons]
      simp [wrs]
      omega
theorem wrs_append {D : List UInt8} {ws us : List (Int × List UInt8)} : wrs D (ws ++ us) = wrs (wrs D ws) us := by simp [wrs]
theorem wrs_len {n : Nat} : ∀ {ws : List (Int × List UInt8)} {D : List UInt8}, D.length = n * 256 → Fit n ws → (wrs D ws).length = n * 256
  | [], D, h, _ => h
  | w :: ws, D, h, hf => by
    have hw := hf w (by simp)
    exact wrs_len (ws := ws) (D := put D w.1.toNat w.2) (put_len h (show w.1.toNat < n by omega) hw.2.2) (fun x hx => hf x (List.mem_cons_of_mem _ hx))
/-- A block that is not written stays. -/
theorem blk_wrs_ne {n j : Nat} : ∀ {ws : List (Int × List UInt8)} {D : List UInt8}, D.length = n * 256 → Fit n ws → (∀ w ∈ ws, w.1 ≠ j) → blk (wrs D ws) j = blk D j
  | [], D, _, _, _ => rfl
  | w :: ws, D, h, hf, hj => by
    have hw := hf w (by simp)
    have hl := put_len (bs := w.2) h (show w.1.toNat < n by omega) hw.2.2
    have := blk_wrs_ne (j := j) (ws := ws) hl (fun x hx => hf x (by simp [hx])) (fun x hx => hj x (by simp [hx]))
    show blk (wrs (put D w.1.toNat w.2) ws) j = _
    rw [this, blk_put_ne h (by omega) hw.2.2]
    intro e
    have := hj w (by simp)
    omega
/-- A block is as it was written last. -/
theorem blk_wrs_at {n j : Nat} {bs : List UInt8} {us vs : List (Int × List UInt8)} {D : List UInt8} (h : D.length = n * 256) (hf : Fit n (us ++ ((j : Int), bs) :: vs)) (hv : ∀ w ∈ vs, w.1 ≠ j) : blk (wrs D (us ++ ((j : Int), bs) :: vs)) j = bs := by
  have hw := hf ((j : Int), bs) (by simp)
  have hu : (wrs D us).length = n * 256 := wrs_len h (fun x hx => hf x (by simp [hx]))
  have hjn : j < n := by have := hw.2.1; simp at this; omega
  rw [wrs_append]
  show blk (wrs (put (wrs D us) j bs) vs) j = bs
  rw [blk_wrs_ne (put_len hu hjn hw.2.2) (fun x hx => hf x (by simp [hx])) hv]
  exact blk_put_same hu hjn hw.2.2

/-- One write of a row. -/
theorem runW_step {s t : Dk} {ws : List (Int × List UInt8)} {w : Int × List UInt8} {i : Nat} (hw : ws[i]? = some w) (h : runW s ws = runW t (ws.drop i)) :
    ((wrD t w.1 w.2).1 = 0 → runW s ws = runW (wrD t w.1 w.2).2 (ws.drop (i + 1))) ∧ ((wrD t w.1 w.2).1 ≠ 0 → runW s ws = wrD t w.1 w.2) := by
  have hi : i < ws.length := (List.getElem?_eq_some_iff.1 hw).1
  have e : ws.drop i = w :: ws.drop (i + 1) := by
    rw [List.drop_eq_getElem_cons hi]
    congr 1
    rw [List.getElem?_eq_getElem hi] at hw
    exact Option.some.inj hw
  rw [e] at h
  simp only [runW] at h
  constructor
  · intro h0; rw [if_pos h0] at h; exact h
  · intro h0; rw [if_neg h0] at h; exact h
theorem ne_of {e : Int} (h : e ≠ 0) : (!ieqB e 0) = true := by rw [ieqB_eq]; simpa using h

/-- The writes to a group's slots, and of its head. -/
def layW (ps : List (Int × List UInt8)) : List (Int × List UInt8) := (ps.zipIdx.map fun p => ((((2 + p.2 : Nat) : Int)), p.1.2)) ++ [(1, headB ps)]
/-- The writes to a group's blocks, and of no head. -/
def finW (ps : List (Int × List UInt8)) : List (Int × List UInt8) := ps ++ [(1, List.replicate 256 0)]
theorem layW_at {ps : List (Int × List UInt8)} {i : Nat} {p : Int × List UInt8} (h : ps[i]? = some p) : (layW ps)[i]? = some (((2 + i : Nat) : Int), p.2) := by
  have hi : i < ps.length := (List.getElem?_eq_some_iff.1 h).1
  unfold layW
  rw [List.getElem?_append_left (by simpa using hi)]
  simp [h]
theorem layW_last {ps : List (Int × List UInt8)} : (layW ps)[ps.length]? = some (1, headB ps) := by
  unfold layW
  rw [List.getElem?_append_right (by simp)]
  simp
theorem finW_at {ps : List (Int × List UInt8)} {i : Nat} {p : Int × List UInt8} (h : ps[i]? = some p) : (finW ps)[i]? = some p := by
  have hi : i < ps.length := (List.getElem?_eq_some_iff.1 h).1
  unfold finW
  rw [List.getElem?_append_left hi, h]
theorem finW_last {ps : List (Int × List UInt8)} : (finW ps)[ps.length]? = some (1, List.replicate 256 0) := by
  unfold finW
  rw [List.getElem?_append_right (by simp)]
  simp
theorem layW_len {ps : List (Int × List UInt8)} : (layW ps).length = ps.length + 1 := by simp [layW]
theorem finW_len {ps : List (Int × List UInt8)} : (finW ps).length = ps.length + 1 := by simp [finW]
theorem drop_last {ws : List (Int × List UInt8)} {i : Nat} (h : ws.length = i + 1) : ws.drop (i + 1) = [] := List.drop_of_length_le (by omega)

set_option maxHeartbeats 1000000 in
theorem finish_ct {F : RL} {rd rb : Nat} {s : Dk} {l : Value} {n : Nat} {gs : List Gw} (hl : SV 2 F l n (gcells gs)) (hd : Reads F gs) (h256 : ∀ g ∈ gs, g.d.length ≤ 1000000) (hn : n ≤ 120) (hs : s.ok) (hw : s.wr ≤ 900000) :
    CS Try.prog 35 [ptr rd, l] (dk rd rb s F) fun v L' => v = .int .i64 (runW s (finW (bd gs))).1 ∧ L' = dk rd rb (runW s (finW (bd gs))).2 F := by
  have hlen := gs_len hl
  have hbl : (bd gs).length = n := by rw [bd_len]; exact hlen
  refine CS.mk (fn := Try.f35) rfl rfl rfl rfl ?_
  repeat refine LS.seq ?_
  refine LS.region rfl ?_
  refine OS.pure rfl (fun _ => rfl) rfl ?_
  refine OS.nil ?_
  repeat refine LS.seq ?_
  refine LS.region rfl ?_
  refine OS.pure rfl (fun _ => rfl) rfl ?_
  refine OS.pure rfl (e_len hl rfl rfl rfl rfl rfl) rfl ?_
  refine OS.pure rfl (fun _ => rfl) rfl ?_
  refine OS.nil ?_
  repeat refine LS.seq ?_
  refine LS.block ?_
  refine LS.loopJ [0, 8, 9, 10] (fun q a L' => ∃ (i : Nat) (t : Dk), q = n - i ∧ i ≤ n ∧ t.ok ∧ t.wr ≤ s.wr + i ∧ runW s (finW (bd gs)) = runW t ((finW (bd gs)).drop i) ∧ L' = dk rd rb t F ∧
    a = [ptr rd, .chan none, .chan none, .chan none, .chan none, .chan none, .chan none, .chan none, l, .int .i64 (n : Nat), .int .i64 (i : Nat), .chan none, .chan none, .chan none, .chan none, .chan none, .chan none, .chan none, .chan none, .chan none, .chan none, .chan none, .chan none, .chan none, .chan none, .chan none, .chan none]) (n := n) rfl ⟨0, s, rfl, by omega, hs, by omega, rfl, rfl, rfl⟩ ?_
  rintro q a L' ⟨i, t, rfl, hi, ht, htw, hrun, rfl, rfl⟩
  repeat refine LS.seq ?_
  refine LS.region rfl ?_
  refine OS.pure rfl (fun _ => rfl) rfl ?_
  refine OS.nil ?_
  repeat refine LS.seq ?_
  refine LS.cond rfl (fun hc => ?_) (fun hc => ?_)
  · have hc : (i : Int) < n := lt_of hc
    have hin : i < n := by omega
    have hg : gs[i]? = some gs[i] := List.getElem?_eq_getElem (by omega)
    have hmem : gs[i] ∈ gs := List.getElem_mem (by omega)
    generalize gs[i] = g at hg hmem
    obtain ⟨m, hgv⟩ := hd g hmem
    obtain ⟨hok, hno⟩ := runW_step (finW_at (bd_get hg)) hrun
    have htok := wrD_ok (i := g.b) (bs := g.d) ht (by omega)
    have hwr := wrD_wr (s := t) (i := g.b) (bs := g.d)
    refine LS.skip ?_
    repeat refine LS.seq ?_
    refine LS.block ?_
    repeat refine LS.seq ?_
    refine LS.region rfl ?_
    refine OS.at (j := i) hl.cons.cons hin rfl rfl rfl rfl rfl rfl (fun r0 o0 row0 cs0 m0 c0 g0 k0 => ?_)
    refine ⟨_, rfl, ?_⟩
    refine OS.read rfl (e_loadm m0 c0 rfl rfl (part_agg rfl rfl (k0 _ (pc_cut (gp_get hg))))) rfl ?_
    refine OS.fresh rfl (e_new (fun _ => rfl) rfl) (fun _ => rfl) (fun rw => ?_)
    refine OS.write rfl (e_store 0 rfl rfl rfl rfl rfl (pair_ok hgv) rfl rfl) rfl ?_
    refine OS.nil ?_
    repeat refine LS.seq ?_
    refine LS.region rfl ?_
    refine OS.pure rfl (fun _ => rfl) rfl ?_
    refine OS.pure rfl (fun _ => rfl) rfl ?_
    refine OS.read rfl (e_load 0 rfl rfl rfl rfl rfl) rfl ?_
    refine OS.pure rfl (fun _ => rfl) rfl ?_
    refine OS.read rfl (e_load 0 rfl rfl rfl rfl rfl) rfl ?_
    refine OS.sub (Sub.pulls [2, 2] rfl) ?_
    refine OS.call noGo rfl (fun _ => rfl) ((Write_all ht g.b hgv.cons).mono ?_)
    rintro v L' ⟨rfl, rfl⟩
    refine ⟨_, rfl, ?_⟩
    refine OS.pure rfl (fun _ => rfl) rfl ?_
    refine OS.nil ?_
    simp only at hok hno
    by_cases h0 : (wrD t g.b g.d).1 = 0
    · rw [h0]
      repeat refine LS.seq ?_
      refine LS.region rfl ?_
      refine OS.pure rfl (fun _ => rfl) rfl ?_
      refine OS.pure rfl (fun _ => rfl) rfl ?_
      refine OS.nil ?_
      refine LS.cond rfl (fun hc => by cases hc) (fun hc => ?_)
      refine LS.skip ?_
      repeat refine LS.seq ?_
      refine LS.region rfl ?_
      refine OS.sub (Sub.drop 2 rfl) ?_
      refine OS.pure rfl (e_add rfl rfl rfl (in_i64 (by omega) (by omega))) rfl ?_
      refine OS.pure rfl (fun _ => rfl) rfl ?_
      refine OS.nil ?_
      exact ⟨n - (i + 1), by omega, i + 1, _, rfl, by omega, htok, by omega, hok h0, rfl, rfl⟩
    · rw [hno h0]
      repeat refine LS.seq ?_
      refine LS.region rfl ?_
      refine OS.pure rfl (fun _ => rfl) rfl ?_
      refine OS.pure rfl (e_is (fun _ => rfl) (congrArg Value.bool (ne_of h0))) rfl ?_
      refine OS.nil ?_
      refine LS.cond rfl (fun hc => ?_) (fun hc => by cases hc)
      repeat refine LS.seq ?_
      refine LS.region rfl ?_
      refine OS.sub (Sub.drop 2 rfl) ?_
      refine OS.pure rfl (fun _ => rfl) rfl ?_
      refine OS.pure rfl (fun _ => rfl) rfl ?_
      refine OS.nil ?_
      refine LS.ret ⟨_, fun _ _ => rfl, ?_⟩
      exact ⟨rfl, rfl⟩
  have hc : (n : Int) ≤ i := nlt_of hc
  have hin : i = n := by omega
  subst hin
  obtain ⟨hok, hno⟩ := runW_step (w := (1, List.replicate 256 0)) (by rw [← hbl]; exact finW_last) hrun
  have hfin : runW s (finW (bd gs)) = wrD t 1 (List.replicate 256 0) := by
    by_cases h0 : (wrD t 1 (List.replicate 256 0)).1 = 0
    · rw [hok h0, drop_last (by rw [finW_len, hbl])]
      show (0, _) = _
      rw [← h0]
    · exact hno h0
  rw [hfin]
  refine LS.exit ?_
  repeat refine LS.seq ?_
  refine LS.region rfl ?_
  refine OS.pure rfl (fun _ => rfl) rfl ?_
  refine OS.fresh rfl (e_make (l := 256) (c := 256) rfl rfl rfl makeT_bytes (Nat.le_refl _) (by omega) (by omega)) (fun _ => rfl) (fun rz => ?_)
  rw [repL_u8]
  refine OS.sub (Sub.pulls [2, 2] rfl) ?_
  refine OS.call noGo rfl (fun _ => rfl) ((Write_all ht 1 (SV.row (List.mem_cons_self ..) (by rw [byteCells_len, List.length_replicate]))).mono ?_)
  rintro v L' ⟨rfl, rfl⟩
  refine ⟨_, rfl, ?_⟩
  refine OS.pure rfl (fun _ => rfl) rfl ?_
  refine OS.sub (Sub.drop 2 rfl) ?_
  refine OS.nil ?_
  refine LS.ret ⟨_, fun _ _ => rfl, ?_⟩
  exact ⟨rfl, rfl⟩
end Go.Proofs.Yteiiekfccecoiaa

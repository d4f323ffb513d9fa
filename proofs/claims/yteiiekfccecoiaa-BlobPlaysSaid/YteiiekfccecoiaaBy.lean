/- Layer 8: are all values as they must be? -/
import Derived.Test.YteiiekfccecoiaaBx
namespace Go.Proofs.Yteiiekfccecoiaa
open Go.Am
set_option linter.unusedVariables false
set_option maxRecDepth 20000

theorem Sub.inB {c : Whr} {s : Dk} {T : List Bool} {X F : RL} : Sub (X ++ (bl c s T F)) (bl c s T (X ++ F)) := Sub.sums fun f => by simp [bl, Z.fm] <;> omega
theorem Sub.outB {c : Whr} {s : Dk} {T : List Bool} {X F : RL} : Sub (bl c s T (X ++ F)) (X ++ (bl c s T F)) := Sub.sums fun f => by simp [bl, Z.fm] <;> omega
theorem pWrites_ct {c : Whr} {s : Dk} {T : List Bool} {F : RL} : CS Try.prog 14 [ptr c.rd] (bl c s T F) fun v L' => v = .int .i64 (s.wr : Nat) ∧ L' = bl c s T F :=
  (CS.sub (Sub.pulls [3, 3] rfl) Writes_ct).less fun v L' ⟨h1, h2⟩ => ⟨bl c s T F, by rw [h2]; exact Sub.pulls [3, 3] rfl, h1, rfl⟩
theorem pCut_ct {c : Whr} {s : Dk} {T : List Bool} {F : RL} (hd : s.dead = false) (m : Nat) (hm : m ≤ 9223372036854775807) : CS Try.prog 22 [ptr c.rd, .int .i64 (m : Nat)] (bl c s T F) fun v L' => v = .int .i64 0 ∧ L' = bl c ⟨s.n, s.D, s.wr, true, m, s.dead⟩ T F :=
  (CS.sub (Sub.pulls [3, 3] rfl) (Cut_ct hd m hm)).less fun v L' ⟨h1, h2⟩ => ⟨bl c ⟨s.n, s.D, s.wr, true, m, s.dead⟩ T F, by rw [h2]; exact Sub.pulls [3, 3] rfl, h1, rfl⟩
theorem pFree_ct {c : Whr} {s : Dk} {T : List Bool} {F : RL} (hT : T.length ≤ 32768) : CS Try.prog 31 [ptr c.rm] (bl c s T F) fun v L' => v = .int .i64 (Z.frees T : Nat) ∧ L' = bl c s T F :=
  (CS.sub (Sub.pulls [5, 5] rfl) (Z.Free_ct hT)).less fun v L' ⟨h1, h2⟩ => ⟨bl c s T F, by rw [h2]; exact Sub.pulls [5, 5, 5, 5] rfl, h1, rfl⟩
theorem bIds_ct {c : Whr} {s : Dk} {T : List Bool} {x : Nat} {H : List Int} {g : Nat → Option Value} {X F : RL} (hX : XR x H g X) (hn : H.length ≤ 1000000) : CS Try.prog 13 [ptr x] (bl c s T (X ++ F)) fun v L' => ∃ Y, GV 3 1 [] v (idsH H).length (ints (idsH H)) Y ∧ L' = bl c s T (X ++ (Y ++ F)) :=
  (CS.sub Sub.inB (ids_ct hX hn)).less fun v L' ⟨Y, h1, h2⟩ => ⟨bl c s T (X ++ (Y ++ F)), by rw [h2]; exact Sub.sums fun f => by simp [bl, Z.fm] <;> omega, Y, h1, rfl⟩
theorem bBlocks_ct {c : Whr} {s : Dk} {T : List Bool} {x : Nat} {H : List Int} {g : Nat → Option Value} {X F : RL} (id : Nat) (hX : XR x H g X) (hn : H.length ≤ 1000000) : CS Try.prog 52 [ptr x, .int .i64 (id : Nat)] (bl c s T (X ++ F)) fun v L' => ∃ Y, GV 3 1 [] v (blkH H id).length (ints (blkH H id)) Y ∧ L' = bl c s T (X ++ (Y ++ F)) :=
  (CS.sub Sub.inB (xBlocks_ct id hX hn)).less fun v L' ⟨Y, h1, h2⟩ => ⟨bl c s T (X ++ (Y ++ F)), by rw [h2]; exact Sub.sums fun f => by simp [bl, Z.fm] <;> omega, Y, h1, rfl⟩
theorem bGet_ct {c : Whr} {s : Dk} {T : List Bool} {x : Nat} {H : List Int} {g : Nat → Option Value} {X F : RL} {id : Nat} {data : List UInt8} (hX : XR x H g X) (hgi : g id = some (txt data)) : CS Try.prog 51 [ptr x, .int .i64 (id : Nat)] (bl c s T (X ++ F)) fun v L' => v = .tuple #[txt data, .bool true] ∧ L' = bl c s T (X ++ F) :=
  (CS.sub Sub.inB (xGet_ct hX hgi)).less fun v L' ⟨h1, h2⟩ => ⟨bl c s T (X ++ F), by rw [h2]; exact Sub.outB, h1, rfl⟩
theorem bxFree_ct {c : Whr} {s : Dk} {T : List Bool} {x : Nat} {H : List Int} {g : Nat → Option Value} {X F : RL} (hX : XR x H g X) (hn : H.length ≤ 1000000) : CS Try.prog 23 [ptr x] (bl c s T (X ++ F)) fun v L' => v = .int .i64 (frH H : Nat) ∧ L' = bl c s T (X ++ F) :=
  (CS.sub Sub.inB (xFree_ct hX hn)).less fun v L' ⟨h1, h2⟩ => ⟨bl c s T (X ++ F), by rw [h2]; exact Sub.outB, h1, rfl⟩
theorem bxDrop_ct {c : Whr} {s : Dk} {T : List Bool} {x : Nat} {H : List Int} {g : Nat → Option Value} {X F : RL} (id : Nat) (hX : XR x H g X) (h0 : 0 < H.length) (hn : H.length ≤ 1000000) : CS Try.prog 20 [ptr x, .int .i64 (id : Nat)] (bl c s T (X ++ F)) fun v L' => ∃ X', XR x (dropH H (id : Nat)) (updF g id none) X' ∧ L' = bl c s T (X' ++ F) :=
  (CS.sub Sub.inB (xDrop_ct id hX h0 hn)).less fun v L' ⟨X', h1, h2⟩ => ⟨bl c s T (X' ++ F), by rw [h2]; exact Sub.outB, X', h1, rfl⟩
theorem bxFull_ct {c : Whr} {s : Dk} {T T' : List Bool} {x : Nat} {H : List Int} {g : Nat → Option Value} {X F : RL} {data : List UInt8} {n : Nat} (hX : XR x H g X) (hT : TH T H) (hn : H.length ≤ 1000000) (hdl : data.length ≤ 1000000) (hnn : need data.length = n) (hf : Z.frees T < n) :
    CS Try.prog 17 [ptr x, txt data] (bl c s T' (X ++ F)) fun v L' => v = .tuple #[.int .i64 0, .int .i64 3] ∧ L' = bl c s T' (X ++ F) :=
  (CS.sub Sub.inB (xPut_full hX hT hn hdl hnn hf)).less fun v L' ⟨h1, h2⟩ => ⟨bl c s T' (X ++ F), by rw [h2]; exact Sub.outB, h1, rfl⟩
theorem bxPut_ct {c : Whr} {s : Dk} {T T' : List Bool} {x : Nat} {H : List Int} {g : Nat → Option Value} {X F : RL} {data : List UInt8} {n : Nat} (hX : XR x H g X) (hT : TH T H) (hn : H.length ≤ 1000000) (hdl : data.length ≤ 1000000) (hnn : need data.length = n) (hf : n ≤ Z.frees T) :
    CS Try.prog 17 [ptr x, txt data] (bl c s T' (X ++ F)) fun v L' => v = .tuple #[.int .i64 (Z.ff T : Nat), .int .i64 0] ∧ ∃ X', XR x (setAll H (Z.tkL T n) (Z.ff T : Nat)) (updF g (Z.ff T) (some (txt data))) X' ∧ L' = bl c s T' (X' ++ F) :=
  (CS.sub Sub.inB (xPut_ct hX hT hn hdl hnn hf)).less fun v L' ⟨h0, X', h1, h2⟩ => ⟨bl c s T' (X' ++ F), by rw [h2]; exact Sub.outB, h0, X', h1, rfl⟩

/-- The desk and the document's desk, side by side. -/
structure Tw (c : Whr) (s : Dk) (T : List Bool) (V : List (List Nat × List UInt8)) (H : List Int) (g : Nat → Option Value) (n w : Nat) : Prop where
  W : W8 c s T V w
  d : s.dead = false
  R : RX V H g n
  T : TH T H
theorem Tw.n {c : Whr} {s : Dk} {T : List Bool} {V : List (List Nat × List UInt8)} {H : List Int} {g : Nat → Option Value} {n w : Nat} (h : Tw c s T V H g n w) : H.length = n ∧ T.length = n ∧ n ≤ 300 := by
  have h1 := h.R.len
  have h2 := h.T.len
  have h3 := h.W.t
  omega
theorem all_ct {c : Whr} {s : Dk} {T : List Bool} {V : List (List Nat × List UInt8)} {H : List Int} {g : Nat → Option Value} {n w x : Nat} {X F : RL} (h : Tw c s T V H g n w) (hX : XR x H g X) :
    CS Try.prog 26 [ptr c.rD, ptr c.rm, ptr x] (bl c s T (X ++ F)) fun v L' => v = .bool true ∧ L' = bl c s T (X ++ F) := by
  obtain ⟨hHn, hTn, hn⟩ := h.n
  suffices hh : CS Try.prog 26 [ptr c.rD, ptr c.rm, ptr x] (bl c s T (X ++ F)) fun v L' => v = .bool true ∧ ∃ Y, L' = bl c s T (X ++ (Y ++ F)) by
    exact hh.less fun v L' ⟨h1, Y, h2⟩ => ⟨bl c s T (X ++ F), by rw [h2]; exact Sub.sums2 Y fun f => by simp [bl, Z.fm] <;> omega, h1, rfl⟩
  obtain ⟨I, hI⟩ : ∃ I, I = idsH H := ⟨_, rfl⟩
  have hIl : I.length ≤ 300 := by rw [hI]; have := filter_len (fun i => decide (H[i]? = some (i : Int))) H.length; unfold idsH; omega
  refine CS.mk (fn := Try.f26) rfl rfl rfl rfl ?_
  repeat refine LS.seq ?_
  refine LS.region rfl ?_
  refine OS.pure rfl (fun _ => rfl) rfl ?_
  refine OS.nil ?_
  repeat refine LS.seq ?_
  refine LS.region rfl ?_
  refine OS.pure rfl (fun _ => rfl) rfl ?_
  refine OS.call noGo rfl (fun _ => rfl) ((bIds_ct hX (by omega)).mono ?_)
  rintro v L' ⟨Y, hg, rfl⟩
  rw [← hI] at hg
  refine ⟨_, rfl, ?_⟩
  refine OS.pure rfl (fun _ => rfl) rfl ?_
  refine OS.nil ?_
  obtain ⟨G, hG⟩ : ∃ G, G = Y ++ F := ⟨_, rfl⟩
  have hu : ∀ Z : RL, SV 1 (bl c s T (X ++ (Z ++ G))) v I.length (ints I) := fun Z => hg.sv.mono (fun p hp => by rw [hG]; simp [hp])
  rw [← hG]
  repeat refine LS.seq ?_
  refine LS.region rfl ?_
  refine OS.pure rfl (fun _ => rfl) rfl ?_
  refine OS.nil ?_
  repeat refine LS.seq ?_
  refine LS.block ?_
  refine LS.loopJ [0, 1, 2, 7, 8] (fun q a L' => ∃ (i : Nat) (Y : RL), q = I.length - i ∧ i ≤ I.length ∧ L' = bl c s T (X ++ (Y ++ G)) ∧
    a = [ptr c.rD, ptr c.rm, ptr x, .chan none, .chan none, .chan none, .chan none, v, .int .i64 (i : Nat), .chan none, .chan none, .chan none, .chan none, .chan none, .chan none, .chan none, .chan none, .chan none, .chan none, .chan none, .chan none, .chan none, .chan none, .chan none, .chan none, .chan none, .chan none, .chan none, .chan none, .chan none, .chan none, .chan none, .chan none, .chan none, .chan none, .chan none, .chan none, .chan none, .chan none, .chan none, .chan none, .chan none, .chan none, .chan none, .chan none, .chan none, .chan none, .chan none, .chan none, .chan none, .chan none, .chan none, .chan none, .chan none, .chan none, .chan none, .chan none, .chan none, .chan none, .chan none, .chan none, .chan none, .chan none, .chan none, .chan none, .chan none, .chan none, .chan none, .chan none, .chan none, .chan none, .chan none, .chan none, .chan none, .chan none, .chan none, .chan none, .chan none, .chan none, .chan none, .chan none, .chan none, .chan none, .chan none, .chan none, .chan none, .chan none]) (n := I.length) rfl ⟨0, [], rfl, by omega, rfl, rfl⟩ ?_
  rintro q a L' ⟨i, Y1, rfl, hi, rfl, rfl⟩
  repeat refine LS.seq ?_
  refine LS.region rfl ?_
  refine OS.pure rfl (fun _ => rfl) rfl ?_
  refine OS.pure rfl (fun _ => rfl) rfl ?_
  refine OS.pure rfl (e_len (hu Y1) rfl rfl rfl rfl rfl) rfl ?_
  refine OS.pure rfl (fun _ => rfl) rfl ?_
  refine OS.nil ?_
  repeat refine LS.seq ?_
  refine LS.cond rfl (fun hc => ?_) (fun hc => ?_)
  · have hc : (i : Int) < I.length := lt_of hc
    have hin : i < I.length := by omega
    obtain ⟨k, hk⟩ : ∃ k, I[i]? = some k := ⟨_, List.getElem?_eq_getElem hin⟩
    obtain ⟨y, hyV, hyk⟩ := h.R.id (D := s.D) (base := 150) (T := T) (k := k) (by rw [← hI]; exact List.mem_of_getElem? hk)
    have hval := h.W.val hyV
    have hy0 := hval.wid
    rw [hyk] at hy0
    have htk := h.W.tk hyV (List.mem_of_getElem? hy0)
    have hgk : g k = some (txt y.2) := by rw [← hyk]; exact h.R.vals y hyV
    have hbk : blkH H k = y.1 := by rw [← hyk]; exact h.R.blocks h.W.h hyV
    have hyl := hval.len
    have hnl := need_le (n := y.2.length) (by have := hval.dl; omega)
    refine LS.skip ?_
    refine LS.seq ?_
    refine LS.mid [0, 1, 2, 7, 8] (fun a L' => ∃ (Y : RL), L' = bl c s T (X ++ (Y ++ G)) ∧ a = [ptr c.rD, ptr c.rm, ptr x, .chan none, .chan none, .chan none, .chan none, v, .int .i64 (i : Nat), .chan none, .chan none, .chan none, .chan none, .chan none, .chan none, .chan none, .chan none, .chan none, .chan none, .chan none, .chan none, .chan none, .chan none, .chan none, .chan none, .chan none, .chan none, .chan none, .chan none, .chan none, .chan none, .chan none, .chan none, .chan none, .chan none, .chan none, .chan none, .chan none, .chan none, .chan none, .chan none, .chan none, .chan none, .chan none, .chan none, .chan none, .chan none, .chan none, .chan none, .chan none, .chan none, .chan none, .chan none, .chan none, .chan none, .chan none, .chan none, .chan none, .chan none, .chan none, .chan none, .chan none, .chan none, .chan none, .chan none, .chan none, .chan none, .chan none, .chan none, .chan none, .chan none, .chan none, .chan none, .chan none, .chan none, .chan none, .chan none, .chan none, .chan none, .chan none, .chan none, .chan none, .chan none, .chan none, .chan none, .chan none, .chan none]) ?_ ?_
    · repeat refine LS.seq ?_
      refine LS.block ?_
      repeat refine LS.seq ?_
      refine LS.region rfl ?_
      refine OS.pure rfl (fun _ => rfl) rfl ?_
      refine OS.pure rfl (fun _ => rfl) rfl ?_
      refine OS.pure rfl (fun _ => rfl) rfl ?_
      refine OS.at1 (j := i) ((hu Y1)) ((show _ = some (Value.int .i64 (k : Nat)) by simp [hk])) rfl rfl rfl rfl rfl rfl (fun ra0 oa0 rowa0 csa0 ma0 ca0 ga0 => ⟨_, rfl, ?_⟩)
      refine OS.read rfl (e_loadm ma0 ca0 rfl rfl (part_one rfl ga0)) rfl ?_
      refine OS.call noGo rfl (fun _ => rfl) ((Get_ct h.W.ok h.d hval hy0 htk).mono ?_)
      rintro w1 L' ⟨rfl, rfl⟩
      refine ⟨_, rfl, ?_⟩
      refine OS.pure rfl (fun _ => rfl) rfl ?_
      refine OS.pure rfl (fun _ => rfl) rfl ?_
      refine OS.pure rfl (fun _ => rfl) rfl ?_
      refine OS.pure rfl (fun _ => rfl) rfl ?_
      refine OS.pure rfl (fun _ => rfl) rfl ?_
      refine OS.nil ?_
      repeat refine LS.seq ?_
      refine LS.region rfl ?_
      refine OS.pure rfl (fun _ => rfl) rfl ?_
      refine OS.pure rfl (fun _ => rfl) rfl ?_
      refine OS.pure rfl (fun _ => rfl) rfl ?_
      refine OS.at1 (j := i) ((hu Y1)) ((show _ = some (Value.int .i64 (k : Nat)) by simp [hk])) rfl rfl rfl rfl rfl rfl (fun ra0 oa0 rowa0 csa0 ma0 ca0 ga0 => ⟨_, rfl, ?_⟩)
      refine OS.read rfl (e_loadm ma0 ca0 rfl rfl (part_one rfl ga0)) rfl ?_
      refine OS.call noGo rfl (fun _ => rfl) ((Blocks_ct h.W.ok h.d hval hy0 htk).mono ?_)
      rintro w1 L' ⟨q, rfl, rfl⟩
      refine ⟨_, rfl, ?_⟩
      refine OS.sub (Sub.sums (A := bl c s T (X ++ (((q, .cells 3 (ints y.1)) :: Y1) ++ G))) fun f => by simp [bl, Z.fm] <;> omega) ?_
      refine OS.pure rfl (fun _ => rfl) rfl ?_
      refine OS.pure rfl (fun _ => rfl) rfl ?_
      refine OS.pure rfl (fun _ => rfl) rfl ?_
      refine OS.pure rfl (fun _ => rfl) rfl ?_
      refine OS.pure rfl (fun _ => rfl) rfl ?_
      refine OS.nil ?_
      repeat refine LS.seq ?_
      refine LS.region rfl ?_
      refine OS.pure rfl (fun _ => rfl) rfl ?_
      refine OS.pure rfl (fun _ => rfl) rfl ?_
      refine OS.pure rfl (fun _ => rfl) rfl ?_
      refine OS.at1 (j := i) ((hu (_ :: Y1))) ((show _ = some (Value.int .i64 (k : Nat)) by simp [hk])) rfl rfl rfl rfl rfl rfl (fun ra0 oa0 rowa0 csa0 ma0 ca0 ga0 => ⟨_, rfl, ?_⟩)
      refine OS.read rfl (e_loadm ma0 ca0 rfl rfl (part_one rfl ga0)) rfl ?_
      refine OS.call noGo rfl (fun _ => rfl) ((bGet_ct hX hgk).mono ?_)
      rintro w1 L' ⟨rfl, rfl⟩
      refine ⟨_, rfl, ?_⟩
      refine OS.pure rfl (fun _ => rfl) rfl ?_
      refine OS.pure rfl (fun _ => rfl) rfl ?_
      refine OS.pure rfl (fun _ => rfl) rfl ?_
      refine OS.pure rfl (fun _ => rfl) rfl ?_
      refine OS.pure rfl (fun _ => rfl) rfl ?_
      refine OS.nil ?_
      repeat refine LS.seq ?_
      refine LS.region rfl ?_
      refine OS.pure rfl (fun _ => rfl) rfl ?_
      refine OS.pure rfl (fun _ => rfl) rfl ?_
      refine OS.pure rfl (fun _ => rfl) rfl ?_
      refine OS.pure rfl (fun _ => rfl) rfl ?_
      refine OS.pure rfl (fun _ => rfl) rfl ?_
      refine OS.pure rfl (fun _ => rfl) rfl ?_
      refine OS.pure rfl (fun _ => rfl) rfl ?_
      refine OS.pure rfl (fun _ => rfl) rfl ?_
      refine OS.pure rfl (fun _ => rfl) rfl ?_
      refine OS.pure rfl (e_is (fun _ => rfl) (congrArg Value.bool (show (!bytesEq y.2 y.2) = false by rw [str_same]; rfl))) rfl ?_
      refine OS.pure rfl (fun _ => rfl) rfl ?_
      refine OS.pure rfl (fun _ => rfl) rfl ?_
      refine OS.pure rfl (fun _ => rfl) rfl ?_
      refine OS.pure rfl (fun _ => rfl) rfl ?_
      refine OS.pure rfl (fun _ => rfl) rfl ?_
      refine OS.pure rfl (fun _ => rfl) rfl ?_
      refine OS.at1 (j := i) ((hu (_ :: Y1))) ((show _ = some (Value.int .i64 (k : Nat)) by simp [hk])) rfl rfl rfl rfl rfl rfl (fun ra0 oa0 rowa0 csa0 ma0 ca0 ga0 => ⟨_, rfl, ?_⟩)
      refine OS.read rfl (e_loadm ma0 ca0 rfl rfl (part_one rfl ga0)) rfl ?_
      refine OS.call noGo rfl (fun _ => rfl) ((bBlocks_ct k hX (by omega)).mono ?_)
      rintro w1 L' ⟨Y2, hg2, rfl⟩
      rw [hbk] at hg2
      refine ⟨_, rfl, ?_⟩
      refine OS.call noGo rfl (fun _ => rfl) ((Ints_ct (xs := y.1) (SV.row (e := 3) (r := q) (by simp) (by simp)) (hg2.sv.mono (fun p hp => by simp [hp])) (by omega)).mono ?_)
      rintro w2 L' ⟨rfl, rfl⟩
      refine ⟨_, rfl, ?_⟩
      refine OS.pure rfl (fun _ => rfl) rfl ?_
      refine OS.pure rfl (fun _ => rfl) rfl ?_
      refine OS.nil ?_
      refine LS.cond rfl (fun hc => by cases hc) (fun hc => ?_)
      refine LS.skip ?_
      refine LS.sub (Sub.sums (A := (q, .cells 3 (ints y.1)) :: bl c s T (X ++ ((Y2 ++ Y1) ++ G))) fun f => by simp [bl, Z.fm] <;> omega) ?_
      repeat refine LS.seq ?_
      refine LS.region rfl ?_
      refine OS.pure rfl (fun _ => rfl) rfl ?_
      refine OS.nil ?_
      refine LS.block ?_
      refine LS.loopJ [0, 1, 2, 7, 8, 11, 15] (fun p a L' => ∃ (j : Nat) (cs : List Value), p = y.1.length - j ∧ j ≤ y.1.length ∧ cs.length = y.1.length ∧ L' = (q, .cells 3 cs) :: bl c s T (X ++ ((Y2 ++ Y1) ++ G)) ∧
        a = [ptr c.rD, ptr c.rm, ptr x, .chan none, .chan none, .chan none, .chan none, v, .int .i64 (i : Nat), .chan none, .chan none, .slice (some ⟨q, 0, none⟩) y.1.length openCap, .chan none, .chan none, .chan none, .int .i64 (j : Nat), .chan none, .chan none, .chan none, .chan none, .chan none, .chan none, .chan none, .chan none, .chan none, .chan none, .chan none, .chan none, .chan none, .chan none, .chan none, .chan none, .chan none, .chan none, .chan none, .chan none, .chan none, .chan none, .chan none, .chan none, .chan none, .chan none, .chan none, .chan none, .chan none, .chan none, .chan none, .chan none, .chan none, .chan none, .chan none, .chan none, .chan none, .chan none, .chan none, .chan none, .chan none, .chan none, .chan none, .chan none, .chan none, .chan none, .chan none, .chan none, .chan none, .chan none, .chan none, .chan none, .chan none, .chan none, .chan none, .chan none, .chan none, .chan none, .chan none, .chan none, .chan none, .chan none, .chan none, .chan none, .chan none, .chan none, .chan none, .chan none, .chan none, .chan none, .chan none]) (n := y.1.length) rfl ⟨0, ints y.1, rfl, by omega, by simp, rfl, rfl⟩ ?_
      rintro p a L' ⟨j, cs, rfl, hj, hcs, rfl, rfl⟩
      repeat refine LS.seq ?_
      refine LS.region rfl ?_
      refine OS.pure rfl (fun _ => rfl) rfl ?_
      refine OS.pure rfl (fun _ => rfl) rfl ?_
      refine OS.pure rfl (fun _ => rfl) rfl ?_
      refine OS.pure rfl (fun _ => rfl) rfl ?_
      refine OS.nil ?_
      repeat refine LS.seq ?_
      refine LS.cond rfl (fun hc => ?_) (fun hc => ?_)
      · have hc : (j : Int) < y.1.length := lt_of hc
        have hjl : j < y.1.length := by omega
        refine LS.skip ?_
        repeat refine LS.seq ?_
        refine LS.block ?_
        repeat refine LS.seq ?_
        refine LS.region rfl ?_
        refine OS.pure rfl (fun _ => rfl) rfl ?_
        refine OS.pure rfl (fun _ => rfl) rfl ?_
        refine OS.pure rfl (e_index (j := j) (sz := 1) rfl rfl rfl rfl rfl hjl) rfl ?_
        refine OS.write rfl (e_store 0 (n := 1) rfl rfl rfl rfl rfl rfl (lay_one (by omega)) rfl) rfl ?_
        refine OS.nil ?_
        repeat refine LS.seq ?_
        refine LS.region rfl ?_
        refine OS.pure rfl (fun _ => rfl) rfl ?_
        refine OS.pure rfl (e_add rfl rfl rfl (in_i64 (by omega) (by omega))) rfl ?_
        refine OS.pure rfl (fun _ => rfl) rfl ?_
        refine OS.nil ?_
        exact ⟨y.1.length - (j + 1), by omega, j + 1, _, rfl, by omega, by rw [List.length_set]; exact hcs, rfl, rfl⟩
      refine LS.sub (Sub.sums (A := bl c s T (X ++ (((q, .cells 3 cs) :: (Y2 ++ Y1)) ++ G))) fun f => by simp [bl, Z.fm] <;> omega) ?_
      refine LS.exit ?_
      exact ⟨_, rfl, rfl⟩
    rintro a L' ⟨Y2, rfl, rfl⟩
    repeat refine LS.seq ?_
    refine LS.region rfl ?_
    refine OS.pure rfl (fun _ => rfl) rfl ?_
    refine OS.pure rfl (e_add rfl rfl rfl (in_i64 (by omega) (by omega))) rfl ?_
    refine OS.pure rfl (fun _ => rfl) rfl ?_
    refine OS.nil ?_
    exact ⟨I.length - (i + 1), by omega, i + 1, Y2, rfl, by omega, rfl, rfl⟩
  refine LS.exit ?_
  repeat refine LS.seq ?_
  refine LS.region rfl ?_
  refine OS.pure rfl (fun _ => rfl) rfl ?_
  refine OS.call noGo rfl (fun _ => rfl) ((pFree_ct h.W.ok.len).mono ?_)
  rintro w1 L' ⟨rfl, rfl⟩
  refine ⟨_, rfl, ?_⟩
  refine OS.pure rfl (fun _ => rfl) rfl ?_
  refine OS.call noGo rfl (fun _ => rfl) ((bxFree_ct hX (by omega)).mono ?_)
  rintro w1 L' ⟨rfl, rfl⟩
  refine ⟨_, rfl, ?_⟩
  refine OS.pure rfl (e_is (fun _ => rfl) (congrArg Value.bool (show ieqB ((Z.frees T : Nat) : Int) ((frH H : Nat) : Int) = true by rw [h.T.frees, ieqB_eq]; simp))) rfl ?_
  refine OS.pure rfl (fun _ => rfl) rfl ?_
  refine OS.nil ?_
  refine LS.ret ⟨_, fun _ _ => rfl, ?_⟩
  exact ⟨rfl, Y1 ++ Y, by rw [hG, List.append_assoc]⟩
end Go.Proofs.Yteiiekfccecoiaa

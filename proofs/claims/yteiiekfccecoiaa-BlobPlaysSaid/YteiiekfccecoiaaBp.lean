/- Layer 8: the examples. -/
import Derived.Test.YteiiekfccecoiaaBo
namespace Go.Proofs.Yteiiekfccecoiaa
open Go.Am
set_option linter.unusedVariables false
set_option maxRecDepth 20000

/-- A Put that is not cut. -/
theorem Put_whole {c : Whr} {s : Dk} {T : List Bool} {F : RL} {data : List UInt8} {n : Nat} {l : List Nat} (hB : Bok c s T) (hw : s.wr ≤ 900000) (hd : s.dead = false) (hdl : data.length ≤ 1000000) (hn : need data.length = n) (hf : n ≤ Z.frees T) (hl : Z.tkL T n = l) (hc : s.cut = true → n ≤ s.left) :
    CS Try.prog 15 [ptr c.rD, txt data] (bl c s T F) fun v L' => v = .tuple #[.int .i64 (Z.ff T : Nat), .int .i64 0] ∧ ∃ Y, L' = bl c ⟨s.n, wrs s.D (putW c.base l data), s.wr + n, s.cut, if s.cut then s.left - n else s.left, false⟩ (Z.tkT T n) (Y ++ F) := by
  subst hn hl
  have hlt : ∀ x ∈ Z.tkL T (need data.length), c.base + x < s.n := fun x hx => by
    have := (Z.tkL_free hf hx).1
    have := hB.hi
    omega
  have hrun := run_whole (s := s) (base := c.base) (data := data) hd hlt (by rw [Z.tkL_len]; exact hc)
  rw [Z.tkL_len] at hrun
  refine (Put_ct hB hw hd hdl hf rfl).mono ?_
  rintro v L' ⟨rfl, Y, rfl⟩
  rw [hrun]
  exact ⟨rfl, Y, rfl⟩
def w0 : List Bool := List.replicate 10 false
def w1 : List Bool := Z.tkT w0 3
def w2 : List Bool := Z.tkT w1 2
def w3 : List Bool := Z.giveL w2 [0, 1, 2]
def w4 : List Bool := Z.tkT w3 4
def x0 : List UInt8 := blank 512
def x1 : List UInt8 := wrs x0 (putW 150 [0, 1, 2] (valB 300 1))
def x2 : List UInt8 := wrs x1 (putW 150 [3, 4] [120])
def x4 : List UInt8 := wrs x2 (putW 150 [0, 1, 2, 5] (valB 700 2))
theorem x0_len : x0.length = 512 * 256 := List.length_replicate ..
theorem x1_len : x1.length = 512 * 256 := wrs_len x0_len (putW_fit (by decide))
theorem x2_len : x2.length = 512 * 256 := wrs_len x1_len (putW_fit (by decide))
theorem x4_len : x4.length = 512 * 256 := wrs_len x2_len (putW_fit (by decide))
theorem l1_is : Z.tkL w0 3 = [0, 1, 2] := by decide
theorem l2_is : Z.tkL w1 2 = [3, 4] := by decide
theorem l4_is : Z.tkL w3 4 = [0, 1, 2, 5] := by decide
theorem f0_is : Z.frees w0 = 10 := by decide
theorem f1_is : Z.frees w1 = 7 := by decide
theorem f3_is : Z.frees w3 = 8 := by decide
theorem f4_is : Z.frees w4 = 4 := by decide
theorem n300 : need (valB 300 1).length = 3 := by rw [valB_len]; rfl
theorem n700 : need (valB 700 2).length = 4 := by rw [valB_len]; rfl
theorem n2000 : need (valB 2000 3).length = 9 := by rw [valB_len]; rfl
theorem V1 : Val x1 150 10 [0, 1, 2] (valB 300 1) := by
  have := Val.made (n := 512) (base := 150) (m := 10) (T := w0) (data := valB 300 1) x0_len rfl (by decide) (by rw [n300, f0_is]; omega) (by rw [valB_len]; omega)
  rwa [n300, l1_is] at this
theorem V2 : Val x2 150 10 [3, 4] [120] := by
  have := Val.made (n := 512) (base := 150) (m := 10) (T := w1) (data := [120]) x1_len rfl (by decide) (by rw [f1_is]; decide) (by decide)
  rwa [show need ([120] : List UInt8).length = 2 from rfl, l2_is] at this
theorem V12 : Val x2 150 10 [0, 1, 2] (valB 300 1) := V1.stay x1_len (by decide) (by decide)
theorem V4 : Val x4 150 10 [0, 1, 2, 5] (valB 700 2) := by
  have := Val.made (n := 512) (base := 150) (m := 10) (T := w3) (data := valB 700 2) x2_len rfl (by decide) (by rw [n700, f3_is]; omega) (by rw [valB_len]; omega)
  rwa [n700, l4_is] at this
theorem V24 : Val x4 150 10 [3, 4] [120] := V2.stay x2_len (by decide) (by decide)

theorem awake_cs : CS Try.prog 7 [] [] fun v _ => v = .bool true ∧ Am.plain v = true := by
  refine CS.mk (fn := Try.f7) rfl rfl rfl rfl ?_
  repeat refine LS.seq ?_
  refine LS.region rfl ?_
  refine OS.pure rfl (fun _ => rfl) rfl ?_
  refine OS.nil ?_
  repeat refine LS.seq ?_
  refine LS.region rfl ?_
  refine OS.call noGo rfl (fun _ => rfl) ((fresh_ct 10 (by omega)).mono ?_)
  rintro v L' ⟨c, Y0, hcb, rfl, rfl⟩
  have hB0 : Bok c dk0 w0 := ⟨dk0_ok, by decide, by omega, by rw [hcb]; decide⟩
  refine ⟨_, rfl, ?_⟩
  refine OS.pure rfl (fun _ => rfl) rfl ?_
  refine OS.pure rfl (fun _ => rfl) rfl ?_
  refine OS.pure rfl (fun _ => rfl) rfl ?_
  refine OS.pure rfl (fun _ => rfl) rfl ?_
  refine OS.pure rfl (fun _ => rfl) rfl ?_
  refine OS.pure rfl (fun _ => rfl) rfl ?_
  refine OS.pure rfl (fun _ => rfl) rfl ?_
  refine OS.nil ?_
  repeat refine LS.seq ?_
  refine LS.region rfl ?_
  refine OS.pure rfl (fun _ => rfl) rfl ?_
  refine OS.pure rfl (fun _ => rfl) rfl ?_
  refine OS.pure rfl (fun _ => rfl) rfl ?_
  refine OS.call noGo rfl (fun _ => rfl) ((Need_ct 0 (by omega)).mono ?_)
  rintro v L' ⟨rfl, rfl⟩
  rw [show need 0 = 2 from rfl]
  refine ⟨_, rfl, ?_⟩
  refine OS.pure rfl (fun _ => rfl) rfl ?_
  refine OS.pure rfl (fun _ => rfl) rfl ?_
  refine OS.pure rfl (fun _ => rfl) rfl ?_
  refine OS.call noGo rfl (fun _ => rfl) ((Need_ct 256 (by omega)).mono ?_)
  rintro v L' ⟨rfl, rfl⟩
  rw [show need 256 = 2 from rfl]
  refine ⟨_, rfl, ?_⟩
  refine OS.pure rfl (fun _ => rfl) rfl ?_
  refine OS.pure rfl (fun _ => rfl) rfl ?_
  refine OS.pure rfl (fun _ => rfl) rfl ?_
  refine OS.call noGo rfl (fun _ => rfl) ((Need_ct 257 (by omega)).mono ?_)
  rintro v L' ⟨rfl, rfl⟩
  rw [show need 257 = 3 from rfl]
  refine ⟨_, rfl, ?_⟩
  refine OS.pure rfl (fun _ => rfl) rfl ?_
  refine OS.pure rfl (fun _ => rfl) rfl ?_
  refine OS.pure rfl (fun _ => rfl) rfl ?_
  refine OS.call noGo rfl (fun _ => rfl) ((Need_ct 30720 (by omega)).mono ?_)
  rintro v L' ⟨rfl, rfl⟩
  rw [show need 30720 = 121 from rfl]
  refine ⟨_, rfl, ?_⟩
  refine OS.pure rfl (fun _ => rfl) rfl ?_
  refine OS.pure rfl (fun _ => rfl) rfl ?_
  refine OS.pure rfl (fun _ => rfl) rfl ?_
  refine OS.call noGo rfl (fun _ => rfl) ((Need_ct 30721 (by omega)).mono ?_)
  rintro v L' ⟨rfl, rfl⟩
  rw [show need 30721 = 123 from rfl]
  refine ⟨_, rfl, ?_⟩
  refine OS.pure rfl (fun _ => rfl) rfl ?_
  refine OS.pure rfl (fun _ => rfl) rfl ?_
  refine OS.pure rfl (fun _ => rfl) rfl ?_
  refine OS.call noGo rfl (fun _ => rfl) ((Need_neg (-1) (by omega)).mono ?_)
  rintro v L' ⟨rfl, rfl⟩
  refine ⟨_, rfl, ?_⟩
  refine OS.pure rfl (fun _ => rfl) rfl ?_
  refine OS.pure rfl (fun _ => rfl) rfl ?_
  refine OS.nil ?_
  refine LS.cond rfl (fun hc => by cases hc) (fun hc => ?_)
  refine LS.skip ?_
  repeat refine LS.seq ?_
  refine LS.region rfl ?_
  refine OS.pure rfl (fun _ => rfl) rfl ?_
  refine OS.call noGo rfl (fun _ => rfl) ((value_ct 300 1 (by omega)).mono ?_)
  rintro v L' ⟨rfl, rfl⟩
  refine ⟨_, rfl, ?_⟩
  refine OS.call noGo rfl (fun _ => rfl) ((Put_whole (T := w0) hB0 (by decide) rfl (by rw [valB_len]; omega) n300 (by rw [f0_is]; omega) l1_is (fun h => by cases h)).mono ?_)
  rintro v L' ⟨rfl, Y1, rfl⟩
  rw [show Z.ff w0 = 0 by decide, hcb]
  obtain ⟨s1, hs1⟩ : ∃ s1 : Dk, s1 = ⟨512, x1, 3, false, 0, false⟩ := ⟨_, rfl⟩
  have hB1 : Bok c s1 w1 := by rw [hs1]; exact ⟨ok_of x1_len (by omega) (by omega) (by omega) (by omega), by decide, by omega, by rw [hcb]; decide⟩
  have hD1 : s1.D = x1 := by rw [hs1]
  refine ⟨_, rfl, ?_⟩
  refine OS.pure rfl (fun _ => rfl) rfl ?_
  refine OS.pure rfl (fun _ => rfl) rfl ?_
  refine OS.pure rfl (fun _ => rfl) rfl ?_
  refine OS.pure rfl (fun _ => rfl) rfl ?_
  refine OS.pure rfl (fun _ => rfl) rfl ?_
  refine OS.nil ?_
  refine LS.sub (L' := bl c s1 w1 (Y1 ++ (Y0 ++ []))) (by rw [hs1]; exact Sub.self) ?_
  repeat refine LS.seq ?_
  refine LS.region rfl ?_
  refine OS.pure rfl (fun _ => rfl) rfl ?_
  refine OS.call noGo rfl (fun _ => rfl) ((Blocks_ct (l := [0, 1, 2]) (data := valB 300 1) (id := 0) hB1 (by rw [hs1]) (by rw [hD1, hcb]; exact V1) rfl (by decide)).mono ?_)
  rintro v L' ⟨q1, rfl, rfl⟩
  refine ⟨_, rfl, ?_⟩
  refine OS.pure rfl (fun _ => rfl) rfl ?_
  refine OS.pure rfl (fun _ => rfl) rfl ?_
  refine OS.pure rfl (fun _ => rfl) rfl ?_
  refine OS.pure rfl (fun _ => rfl) rfl ?_
  refine OS.pure rfl (fun _ => rfl) rfl ?_
  refine OS.nil ?_
  repeat refine LS.seq ?_
  refine LS.region rfl ?_
  refine OS.pure rfl (fun _ => rfl) rfl ?_
  refine OS.call noGo rfl (fun _ => rfl) ((Put_whole (n := 2) (data := [120]) hB1 (by rw [hs1]; decide) (by rw [hs1]) (by decide) rfl (by rw [f1_is]; omega) l2_is (fun h => by rw [hs1] at h; cases h)).mono ?_)
  rintro v L' ⟨rfl, Y2, rfl⟩
  rw [show Z.ff w1 = 3 by decide, hcb]
  obtain ⟨s2, hs2⟩ : ∃ s2 : Dk, s2 = ⟨512, x2, 5, false, 0, false⟩ := ⟨_, rfl⟩
  have hB2 : Bok c s2 w2 := by rw [hs2]; exact ⟨ok_of x2_len (by omega) (by omega) (by omega) (by omega), by decide, by omega, by rw [hcb]; decide⟩
  have hD2 : s2.D = x2 := by rw [hs2]
  refine ⟨_, rfl, ?_⟩
  refine OS.pure rfl (fun _ => rfl) rfl ?_
  refine OS.pure rfl (fun _ => rfl) rfl ?_
  refine OS.pure rfl (fun _ => rfl) rfl ?_
  refine OS.pure rfl (fun _ => rfl) rfl ?_
  refine OS.pure rfl (fun _ => rfl) rfl ?_
  refine OS.nil ?_
  refine LS.sub (L' := bl c s2 w2 (Y2 ++ ((q1, .cells 3 (ints [0, 1, 2])) :: (Y1 ++ (Y0 ++ []))))) (by rw [hs2, hs1]; exact Sub.self) ?_
  repeat refine LS.seq ?_
  refine LS.region rfl ?_
  refine OS.pure rfl (fun _ => rfl) rfl ?_
  refine OS.call noGo rfl (fun _ => rfl) ((Drop_ct (l := [0, 1, 2]) (data := valB 300 1) (id := 0) hB2 (by rw [hs2]) (by rw [hD2, hcb]; exact V12) rfl (by decide)).mono ?_)
  rintro v L' ⟨rfl, rfl⟩
  have hB3 : Bok c s2 w3 := by rw [hs2]; exact ⟨ok_of x2_len (by omega) (by omega) (by omega) (by omega), by decide, by omega, by rw [hcb]; decide⟩
  refine ⟨_, rfl, ?_⟩
  refine OS.pure rfl (fun _ => rfl) rfl ?_
  refine OS.nil ?_
  refine LS.sub (L' := bl c s2 w3 (Y2 ++ ((q1, .cells 3 (ints [0, 1, 2])) :: (Y1 ++ (Y0 ++ []))))) Sub.self ?_
  repeat refine LS.seq ?_
  refine LS.region rfl ?_
  refine OS.pure rfl (fun _ => rfl) rfl ?_
  refine OS.call noGo rfl (fun _ => rfl) ((value_ct 700 2 (by omega)).mono ?_)
  rintro v L' ⟨rfl, rfl⟩
  refine ⟨_, rfl, ?_⟩
  refine OS.call noGo rfl (fun _ => rfl) ((Put_whole hB3 (by rw [hs2]; decide) (by rw [hs2]) (by rw [valB_len]; omega) n700 (by rw [f3_is]; omega) l4_is (fun h => by rw [hs2] at h; cases h)).mono ?_)
  rintro v L' ⟨rfl, Y3, rfl⟩
  rw [show Z.ff w3 = 0 by decide, hcb]
  obtain ⟨s4, hs4⟩ : ∃ s4 : Dk, s4 = ⟨512, x4, 9, false, 0, false⟩ := ⟨_, rfl⟩
  have hB4 : Bok c s4 w4 := by rw [hs4]; exact ⟨ok_of x4_len (by omega) (by omega) (by omega) (by omega), by decide, by omega, by rw [hcb]; decide⟩
  have hD4 : s4.D = x4 := by rw [hs4]
  refine ⟨_, rfl, ?_⟩
  refine OS.pure rfl (fun _ => rfl) rfl ?_
  refine OS.pure rfl (fun _ => rfl) rfl ?_
  refine OS.pure rfl (fun _ => rfl) rfl ?_
  refine OS.pure rfl (fun _ => rfl) rfl ?_
  refine OS.pure rfl (fun _ => rfl) rfl ?_
  refine OS.nil ?_
  refine LS.sub (L' := bl c s4 w4 (Y3 ++ (Y2 ++ ((q1, .cells 3 (ints [0, 1, 2])) :: (Y1 ++ (Y0 ++ [])))))) (by rw [hs4, hs2]; exact Sub.self) ?_
  repeat refine LS.seq ?_
  refine LS.region rfl ?_
  refine OS.pure rfl (fun _ => rfl) rfl ?_
  refine OS.call noGo rfl (fun _ => rfl) ((Blocks_ct (l := [0, 1, 2, 5]) (data := valB 700 2) (id := 0) hB4 (by rw [hs4]) (by rw [hD4, hcb]; exact V4) rfl (by decide)).mono ?_)
  rintro v L' ⟨q2, rfl, rfl⟩
  refine ⟨_, rfl, ?_⟩
  refine OS.pure rfl (fun _ => rfl) rfl ?_
  refine OS.pure rfl (fun _ => rfl) rfl ?_
  refine OS.pure rfl (fun _ => rfl) rfl ?_
  refine OS.pure rfl (fun _ => rfl) rfl ?_
  refine OS.pure rfl (fun _ => rfl) rfl ?_
  refine OS.nil ?_
  repeat refine LS.seq ?_
  refine LS.region rfl ?_
  refine OS.pure rfl (fun _ => rfl) rfl ?_
  refine OS.call noGo rfl (fun _ => rfl) ((value_ct 2000 3 (by omega)).mono ?_)
  rintro v L' ⟨rfl, rfl⟩
  refine ⟨_, rfl, ?_⟩
  refine OS.call noGo rfl (fun _ => rfl) ((Put_full hB4.len (by rw [hs4]) (by rw [valB_len]; omega) (by rw [n2000, f4_is]; omega)).mono ?_)
  rintro v L' ⟨rfl, Y4, rfl⟩
  refine ⟨_, rfl, ?_⟩
  refine OS.pure rfl (fun _ => rfl) rfl ?_
  refine OS.pure rfl (fun _ => rfl) rfl ?_
  refine OS.pure rfl (fun _ => rfl) rfl ?_
  refine OS.pure rfl (fun _ => rfl) rfl ?_
  refine OS.pure rfl (fun _ => rfl) rfl ?_
  refine OS.nil ?_
  repeat refine LS.seq ?_
  refine LS.region rfl ?_
  refine OS.pure rfl (fun _ => rfl) rfl ?_
  refine OS.call noGo rfl (fun _ => rfl) ((Get_none hB4.len (by rw [hs4]) 7 (by decide)).mono ?_)
  rintro v L' ⟨rfl, rfl⟩
  refine ⟨_, rfl, ?_⟩
  refine OS.pure rfl (fun _ => rfl) rfl ?_
  refine OS.pure rfl (fun _ => rfl) rfl ?_
  refine OS.pure rfl (fun _ => rfl) rfl ?_
  refine OS.pure rfl (fun _ => rfl) rfl ?_
  refine OS.pure rfl (fun _ => rfl) rfl ?_
  refine OS.nil ?_
  repeat refine LS.seq ?_
  refine LS.region rfl ?_
  refine OS.pure rfl (fun _ => rfl) rfl ?_
  refine OS.call noGo rfl (fun _ => rfl) ((Get_ct (l := [3, 4]) (data := [120]) (id := 3) hB4 (by rw [hs4]) (by rw [hD4, hcb]; exact V24) rfl (by decide)).mono ?_)
  rintro v L' ⟨rfl, rfl⟩
  refine ⟨_, rfl, ?_⟩
  refine OS.pure rfl (fun _ => rfl) rfl ?_
  refine OS.pure rfl (fun _ => rfl) rfl ?_
  refine OS.pure rfl (fun _ => rfl) rfl ?_
  refine OS.pure rfl (fun _ => rfl) rfl ?_
  refine OS.pure rfl (fun _ => rfl) rfl ?_
  refine OS.nil ?_
  repeat refine LS.seq ?_
  refine LS.region rfl ?_
  refine OS.pure rfl (fun _ => rfl) rfl ?_
  refine OS.pure rfl (fun _ => rfl) rfl ?_
  refine OS.pure rfl (fun _ => rfl) rfl ?_
  refine OS.pure rfl (fun _ => rfl) rfl ?_
  refine OS.pure rfl (fun _ => rfl) rfl ?_
  refine OS.pure rfl (fun _ => rfl) rfl ?_
  refine OS.pure rfl (fun _ => rfl) rfl ?_
  refine OS.pure rfl (fun _ => rfl) rfl ?_
  refine OS.pure rfl (fun _ => rfl) rfl ?_
  refine OS.pure rfl (fun _ => rfl) rfl ?_
  refine OS.pure rfl (fun _ => rfl) rfl ?_
  refine OS.pure rfl (fun _ => rfl) rfl ?_
  refine OS.fresh rfl (e_new (fun _ => rfl) rfl) (fun _ => rfl) (fun x1 => ?_)
  refine OS.call noGo rfl (fun _ => rfl) ((Ints_ct (xs := [0, 1, 2]) (SV.row (e := 3) (r := q1) (n := 3) (by simp) rfl) (SV.row (e := 3) (r := x1) (n := 3) (List.mem_cons_self ..) rfl) (by decide)).mono ?_)
  rintro v L' ⟨rfl, rfl⟩
  refine ⟨_, rfl, ?_⟩
  refine OS.pure rfl (fun _ => rfl) rfl ?_
  refine OS.pure rfl (fun _ => rfl) rfl ?_
  refine OS.pure rfl (fun _ => rfl) rfl ?_
  refine OS.pure rfl (fun _ => rfl) rfl ?_
  refine OS.pure rfl (fun _ => rfl) rfl ?_
  refine OS.pure rfl (fun _ => rfl) rfl ?_
  refine OS.pure rfl (fun _ => rfl) rfl ?_
  refine OS.pure rfl (fun _ => rfl) rfl ?_
  refine OS.pure rfl (fun _ => rfl) rfl ?_
  refine OS.pure rfl (fun _ => rfl) rfl ?_
  refine OS.pure rfl (fun _ => rfl) rfl ?_
  refine OS.pure rfl (fun _ => rfl) rfl ?_
  refine OS.pure rfl (fun _ => rfl) rfl ?_
  refine OS.pure rfl (fun _ => rfl) rfl ?_
  refine OS.pure rfl (fun _ => rfl) rfl ?_
  refine OS.pure rfl (fun _ => rfl) rfl ?_
  refine OS.pure rfl (fun _ => rfl) rfl ?_
  refine OS.pure rfl (fun _ => rfl) rfl ?_
  refine OS.pure rfl (fun _ => rfl) rfl ?_
  refine OS.pure rfl (fun _ => rfl) rfl ?_
  refine OS.pure rfl (fun _ => rfl) rfl ?_
  refine OS.pure rfl (fun _ => rfl) rfl ?_
  refine OS.pure rfl (fun _ => rfl) rfl ?_
  refine OS.pure rfl (fun _ => rfl) rfl ?_
  refine OS.pure rfl (fun _ => rfl) rfl ?_
  refine OS.pure rfl (fun _ => rfl) rfl ?_
  refine OS.pure rfl (fun _ => rfl) rfl ?_
  refine OS.fresh rfl (e_new (fun _ => rfl) rfl) (fun _ => rfl) (fun x2 => ?_)
  refine OS.call noGo rfl (fun _ => rfl) ((Ints_ct (xs := [0, 1, 2, 5]) (SV.row (e := 3) (r := q2) (n := 4) (by simp) rfl) (SV.row (e := 3) (r := x2) (n := 4) (List.mem_cons_self ..) rfl) (by decide)).mono ?_)
  rintro v L' ⟨rfl, rfl⟩
  refine ⟨_, rfl, ?_⟩
  refine OS.pure rfl (fun _ => rfl) rfl ?_
  refine OS.pure rfl (fun _ => rfl) rfl ?_
  refine OS.pure rfl (fun _ => rfl) rfl ?_
  refine OS.pure rfl (fun _ => rfl) rfl ?_
  refine OS.pure rfl (fun _ => rfl) rfl ?_
  refine OS.pure rfl (fun _ => rfl) rfl ?_
  refine OS.pure rfl (fun _ => rfl) rfl ?_
  refine OS.pure rfl (fun _ => rfl) rfl ?_
  refine OS.pure rfl (fun _ => rfl) rfl ?_
  refine OS.pure rfl (fun _ => rfl) rfl ?_
  refine OS.pure rfl (fun _ => rfl) rfl ?_
  refine OS.pure rfl (fun _ => rfl) rfl ?_
  refine OS.pure rfl (fun _ => rfl) rfl ?_
  refine OS.pure rfl (fun _ => rfl) rfl ?_
  refine OS.pure rfl (fun _ => rfl) rfl ?_
  refine OS.pure rfl (fun _ => rfl) rfl ?_
  refine OS.pure rfl (fun _ => rfl) rfl ?_
  refine OS.pure rfl (fun _ => rfl) rfl ?_
  refine OS.pure rfl (fun _ => rfl) rfl ?_
  refine OS.sub (Sub.pulls [7, 7] rfl) ?_
  refine OS.call noGo rfl (fun _ => rfl) ((Z.Free_ct hB4.len).mono ?_)
  rintro v L' ⟨rfl, rfl⟩
  rw [f4_is]
  refine ⟨_, rfl, ?_⟩
  refine OS.pure rfl (fun _ => rfl) rfl ?_
  refine OS.pure rfl (fun _ => rfl) rfl ?_
  refine OS.pure rfl (fun _ => rfl) rfl ?_
  refine OS.nil ?_
  refine LS.ret ⟨_, fun _ _ => rfl, ?_⟩
  exact ⟨rfl, rfl⟩
theorem awake_ct {L : RL} : CS Try.prog 7 [] L fun v L' => v = .bool true ∧ L' = L := CS.still (R := fun v => v = .bool true) awake_cs rfl
end Go.Proofs.Yteiiekfccecoiaa

/- Layer 5: works; how many are free behind a step. -/
import Derived.Test.YtlifdkihjnnonaaFf
namespace Go.Proofs.Ytlifdkihjnnonaa
open Go.Am
set_option linter.unusedVariables false
set_option maxRecDepth 20000

def w0 : List Bool := List.replicate 10 false
def w1 : List Bool := takeS w0
def w2 : List Bool := takeS w1
def w3 : List Bool := takeS w2
def w4 : List Bool := dropS w3 1
def w5 : List Bool := takeS w4
def w6 : List Bool := claimS w5 9
def w7 : List Bool := claimS w6 9
theorem w_bytes : mb w7 = [10, 7, 2] := by
  unfold mb
  rw [show w7.length = 10 by decide, grp_lt (by decide)]
  decide
theorem works_cs : CS Try.prog 8 [] [] fun v _ => v = .bool true ∧ Am.plain v = true := by
  have hl : ∀ T ∈ [w0, w1, w2, w3, w4, w5, w6, w7], T.length ≤ 32768 := by decide
  refine CS.mk (fn := Try.f8) rfl rfl rfl rfl ?_
  repeat refine LS.seq ?_
  refine LS.region rfl ?_
  refine OS.pure rfl (fun _ => rfl) rfl ?_
  refine OS.nil ?_
  repeat refine LS.seq ?_
  refine LS.region rfl ?_
  refine OS.call noGo rfl (fun _ => rfl) ((New_ct 10 (by decide)).mono ?_)
  rintro v L' ⟨rm, rb, rfl, rfl⟩
  rw [show List.replicate 10 false = w0 from rfl]
  refine ⟨_, rfl, ?_⟩
  refine OS.pure rfl (fun _ => rfl) rfl ?_
  refine OS.pure rfl (fun _ => rfl) rfl ?_
  refine OS.pure rfl (fun _ => rfl) rfl ?_
  refine OS.pure rfl (fun _ => rfl) rfl ?_
  refine OS.pure rfl (fun _ => rfl) rfl ?_
  refine OS.nil ?_
  repeat refine LS.seq ?_
  refine LS.region rfl ?_
  refine OS.pure rfl (fun _ => rfl) rfl ?_
  refine OS.pure rfl (fun _ => rfl) rfl ?_
  refine OS.nil ?_
  refine LS.cond rfl (fun hc => by cases hc) (fun hc => ?_)
  refine LS.skip ?_
  repeat refine LS.seq ?_
  refine LS.region rfl ?_
  refine OS.pure rfl (fun _ => rfl) rfl ?_
  refine OS.call noGo rfl (fun _ => rfl) ((Take_ct (T := w0) (hl _ (by simp))).mono ?_)
  rintro v L' ⟨rfl, rfl⟩
  rw [show takeI w0 = 0 by decide, show takeE w0 = 0 by decide, show takeS w0 = w1 from rfl]
  refine ⟨_, rfl, ?_⟩
  refine OS.pure rfl (fun _ => rfl) rfl ?_
  refine OS.pure rfl (fun _ => rfl) rfl ?_
  refine OS.pure rfl (fun _ => rfl) rfl ?_
  refine OS.pure rfl (fun _ => rfl) rfl ?_
  refine OS.pure rfl (fun _ => rfl) rfl ?_
  refine OS.nil ?_
  repeat refine LS.seq ?_
  refine LS.region rfl ?_
  refine OS.pure rfl (fun _ => rfl) rfl ?_
  refine OS.call noGo rfl (fun _ => rfl) ((Take_ct (T := w1) (hl _ (by simp))).mono ?_)
  rintro v L' ⟨rfl, rfl⟩
  rw [show takeI w1 = 1 by decide, show takeE w1 = 0 by decide, show takeS w1 = w2 from rfl]
  refine ⟨_, rfl, ?_⟩
  refine OS.pure rfl (fun _ => rfl) rfl ?_
  refine OS.pure rfl (fun _ => rfl) rfl ?_
  refine OS.pure rfl (fun _ => rfl) rfl ?_
  refine OS.pure rfl (fun _ => rfl) rfl ?_
  refine OS.pure rfl (fun _ => rfl) rfl ?_
  refine OS.nil ?_
  repeat refine LS.seq ?_
  refine LS.region rfl ?_
  refine OS.pure rfl (fun _ => rfl) rfl ?_
  refine OS.call noGo rfl (fun _ => rfl) ((Take_ct (T := w2) (hl _ (by simp))).mono ?_)
  rintro v L' ⟨rfl, rfl⟩
  rw [show takeI w2 = 2 by decide, show takeE w2 = 0 by decide, show takeS w2 = w3 from rfl]
  refine ⟨_, rfl, ?_⟩
  refine OS.pure rfl (fun _ => rfl) rfl ?_
  refine OS.pure rfl (fun _ => rfl) rfl ?_
  refine OS.pure rfl (fun _ => rfl) rfl ?_
  refine OS.pure rfl (fun _ => rfl) rfl ?_
  refine OS.pure rfl (fun _ => rfl) rfl ?_
  refine OS.nil ?_
  repeat refine LS.seq ?_
  refine LS.region rfl ?_
  refine OS.pure rfl (fun _ => rfl) rfl ?_
  refine OS.call noGo rfl (fun _ => rfl) ((Drop_ct (T := w3) (hl _ (by simp)) 1).mono ?_)
  rintro v L' ⟨rfl, rfl⟩
  rw [show dropE w3 1 = 0 by decide, show dropS w3 1 = w4 from rfl]
  refine ⟨_, rfl, ?_⟩
  refine OS.pure rfl (fun _ => rfl) rfl ?_
  refine OS.nil ?_
  repeat refine LS.seq ?_
  refine LS.region rfl ?_
  refine OS.pure rfl (fun _ => rfl) rfl ?_
  refine OS.call noGo rfl (fun _ => rfl) ((Take_ct (T := w4) (hl _ (by simp))).mono ?_)
  rintro v L' ⟨rfl, rfl⟩
  rw [show takeI w4 = 1 by decide, show takeE w4 = 0 by decide, show takeS w4 = w5 from rfl]
  refine ⟨_, rfl, ?_⟩
  refine OS.pure rfl (fun _ => rfl) rfl ?_
  refine OS.pure rfl (fun _ => rfl) rfl ?_
  refine OS.pure rfl (fun _ => rfl) rfl ?_
  refine OS.pure rfl (fun _ => rfl) rfl ?_
  refine OS.pure rfl (fun _ => rfl) rfl ?_
  refine OS.nil ?_
  repeat refine LS.seq ?_
  refine LS.region rfl ?_
  refine OS.pure rfl (fun _ => rfl) rfl ?_
  refine OS.pure rfl (fun _ => rfl) rfl ?_
  refine OS.pure rfl (fun _ => rfl) rfl ?_
  refine OS.pure rfl (fun _ => rfl) rfl ?_
  refine OS.pure rfl (fun _ => rfl) rfl ?_
  refine OS.pure rfl (fun _ => rfl) rfl ?_
  refine OS.pure rfl (fun _ => rfl) rfl ?_
  refine OS.pure rfl (fun _ => rfl) rfl ?_
  refine OS.pure rfl (fun _ => rfl) rfl ?_
  refine OS.pure rfl (fun _ => rfl) rfl ?_
  refine OS.pure rfl (fun _ => rfl) rfl ?_
  refine OS.pure rfl (fun _ => rfl) rfl ?_
  refine OS.pure rfl (fun _ => rfl) rfl ?_
  refine OS.pure rfl (fun _ => rfl) rfl ?_
  refine OS.pure rfl (fun _ => rfl) rfl ?_
  refine OS.pure rfl (fun _ => rfl) rfl ?_
  refine OS.pure rfl (fun _ => rfl) rfl ?_
  refine OS.pure rfl (fun _ => rfl) rfl ?_
  refine OS.pure rfl (fun _ => rfl) rfl ?_
  refine OS.pure rfl (fun _ => rfl) rfl ?_
  refine OS.call noGo rfl (fun _ => rfl) ((Claim_ct (T := w5) (hl _ (by simp)) 9).mono ?_)
  rintro v L' ⟨rfl, rfl⟩
  rw [show claimE w5 9 = 0 by decide, show claimS w5 9 = w6 from rfl]
  refine ⟨_, rfl, ?_⟩
  refine OS.pure rfl (fun _ => rfl) rfl ?_
  refine OS.pure rfl (fun _ => rfl) rfl ?_
  refine OS.pure rfl (fun _ => rfl) rfl ?_
  refine OS.pure rfl (fun _ => rfl) rfl ?_
  refine OS.call noGo rfl (fun _ => rfl) ((Claim_ct (T := w6) (hl _ (by simp)) 9).mono ?_)
  rintro v L' ⟨rfl, rfl⟩
  rw [show claimE w6 9 = 6 by decide, show claimS w6 9 = w7 from rfl]
  refine ⟨_, rfl, ?_⟩
  refine OS.pure rfl (fun _ => rfl) rfl ?_
  refine OS.pure rfl (fun _ => rfl) rfl ?_
  refine OS.pure rfl (fun _ => rfl) rfl ?_
  refine OS.pure rfl (fun _ => rfl) rfl ?_
  refine OS.call noGo rfl (fun _ => rfl) ((Free_ct (T := w7) (hl _ (by simp))).mono ?_)
  rintro v L' ⟨rfl, rfl⟩
  rw [show frees w7 = 6 by decide]
  refine ⟨_, rfl, ?_⟩
  refine OS.pure rfl (fun _ => rfl) rfl ?_
  refine OS.pure rfl (fun _ => rfl) rfl ?_
  refine OS.pure rfl (fun _ => rfl) rfl ?_
  refine OS.pure rfl (fun _ => rfl) rfl ?_
  refine OS.call noGo rfl (fun _ => rfl) ((List_ct (T := w7) (hl _ (by simp))).mono ?_)
  rintro v L' hg
  rw [show (lst' w7).length = 4 by decide] at hg
  refine ⟨_, rfl, ?_⟩
  refine OS.pure rfl (e_len (n := 4) hg.sv rfl rfl rfl rfl rfl) rfl ?_
  refine OS.pure rfl (fun _ => rfl) rfl ?_
  refine OS.pure rfl (fun _ => rfl) rfl ?_
  refine OS.pure rfl (fun _ => rfl) rfl ?_
  refine OS.pure rfl (fun _ => rfl) rfl ?_
  have hgm : ∃ X, L'.Perm (fm rm rb w7 [] ++ X) := by
    rcases hg with ⟨_, _, _, rfl⟩ | ⟨r, _, _, rfl⟩
    · exact ⟨[], by simp⟩
    · exact ⟨[_], List.perm_append_comm (l₁ := [_])⟩
  refine OS.sub hgm ?_
  refine OS.call noGo rfl (fun _ => rfl) ((Bytes_ct (T := w7) (hl _ (by simp))).mono ?_)
  rintro v L' ⟨r, rfl, rfl⟩
  rw [w_bytes]
  refine ⟨_, rfl, ?_⟩
  refine OS.read rfl (e_textSV (n := 3) (bs := [10, 7, 2]) (SV.row (e := 5) (List.mem_cons_self ..) rfl) rfl rfl rfl rfl rfl) rfl ?_
  refine OS.pure rfl (fun _ => rfl) rfl ?_
  refine OS.pure rfl (fun _ => rfl) rfl ?_
  refine OS.pure rfl (fun _ => rfl) rfl ?_
  refine OS.nil ?_
  refine LS.ret ⟨_, fun _ _ => rfl, ?_⟩
  exact ⟨rfl, rfl⟩
theorem works_ct {L : RL} : CS Try.prog 8 [] L fun v L' => v = .bool true ∧ L' = L := CS.still (R := fun v => v = .bool true) works_cs rfl

/-! ### How many are free behind a step -/
theorem frees_zeros (n : Nat) : frees (List.replicate n false) = n := by simp [frees, List.countP_replicate]
theorem frees_set {T : List Bool} {i : Nat} (hi : i < T.length) (h : tkn T i = false) : frees (T.set i true) + 1 = frees T := by
  have hti : T[i] = false := by
    have := tkn_in hi
    rw [h, List.getElem?_eq_getElem hi] at this
    simpa using this
  unfold frees
  rw [List.countP_set hi]
  have hpos : 0 < T.countP (fun b => !b) := List.countP_pos_iff.2 ⟨T[i], List.getElem_mem hi, by rw [hti]; rfl⟩
  simp [hti]
  omega
theorem frees_drop {T : List Bool} {i : Nat} (hi : i < T.length) (h : tkn T i = true) : frees (T.set i false) = frees T + 1 := by
  have hti : T[i] = true := by
    have := tkn_in hi
    rw [h, List.getElem?_eq_getElem hi] at this
    simpa using this
  unfold frees
  rw [List.countP_set hi]
  simp [hti]
theorem claim_frees (T : List Bool) (i : Int) : frees (claimS T i) + (if claimE T i = 0 then 1 else 0) = frees T := by
  unfold claimS
  split
  · rename_i h
    unfold claimE at h
    split at h
    · rename_i hr
      split at h
      · cases h
      · rename_i ht
        exact frees_set (by omega) (by simpa using ht)
    · cases h
  · rfl
theorem drop_frees (T : List Bool) (i : Int) : frees (dropS T i) = frees T + (if dropE T i = 0 then 1 else 0) := by
  unfold dropS
  split
  · rename_i h
    unfold dropE at h
    split at h
    · rename_i hr
      split at h
      · rename_i ht
        exact frees_drop (by omega) ht
      · cases h
    · cases h
  · rfl
theorem frees_le (T : List Bool) : frees T ≤ T.length := List.countP_le_length
theorem ff_free {T : List Bool} : ff T < T.length ↔ 0 < frees T := by
  constructor
  · intro h
    have := frees_set h (ff_here h)
    omega
  · intro h
    obtain ⟨b, hb, hp⟩ := List.countP_pos_iff.1 h
    exact List.findIdx_lt_length_of_exists ⟨b, hb, hp⟩
end Go.Proofs.Ytlifdkihjnnonaa

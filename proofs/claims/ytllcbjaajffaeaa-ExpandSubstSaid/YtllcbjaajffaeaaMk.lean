/- Layer 14: Rows. -/
import Derived.Test.YtllcbjaajffaeaaMj
namespace Go.Proofs.Ytllcbjaajffaeaa
open Go.Am Go.Mx
set_option linter.unusedVariables false
set_option linter.unusedSimpArgs false
set_option maxRecDepth 20000
set_option maxHeartbeats 4000000
attribute [local irreducible] OS LSr ODS CS YS OGS OT
abbrev tS : TypeId := 32
/-- Rows of texts, each in a row of its own. -/
def rvs (t : List (Nat × List W)) : List Value := t.map fun x => .slice (some ⟨x.1, 0, none⟩) x.2.length openCap
def rrs (t : List (Nat × List W)) : RL := t.map fun x => (x.1, .cells 9 (strs x.2))
theorem rvs_len (t : List (Nat × List W)) : (rvs t).length = t.length := by simp [rvs]
theorem rvs_snoc (t : List (Nat × List W)) (x : Nat × List W) : rvs (t ++ [x]) = rvs t ++ [.slice (some ⟨x.1, 0, none⟩) x.2.length openCap] := by simp [rvs]
theorem rrs_snoc (t : List (Nat × List W)) (x : Nat × List W) : rrs (t ++ [x]) = rrs t ++ [(x.1, .cells 9 (strs x.2))] := by simp [rrs]
def RowsR (l : List Ax) (L : RL) (v : Value) (L' : RL) : Prop :=
  (chk l ≠ 0 ∧ v = .tuple #[.slice none 0 0, .int .i64 (chk l : Nat)] ∧ L' = L) ∨
  (chk l = 0 ∧ ∃ A c t HY, v = .tuple #[.slice A (cnt (nsA l)) c, .int .i64 0] ∧ t.map (·.2) = rowsL (vlsA l) ∧ GV tS 1 [] (.slice A (cnt (nsA l)) c) (cnt (nsA l)) (rvs t) HY ∧ L' = HY ++ (rrs t ++ L))
theorem chk_zero {l : List Ax} (h : chk l = 0) : (∀ x, x ∈ l → 0 < x.2.length) ∧ cnt (nsA l) ≤ 24 := by
  unfold chk at h
  split at h
  · rename_i h1; exact absurd h h1
  · rename_i h1
    split at h
    · cases h
    · exact ⟨bad_pos l [] (by omega), by omega⟩
theorem le_cnt {l : List Ax} (hp : ∀ x, x ∈ l → 0 < x.2.length) {x : Ax} (hx : x ∈ l) : x.2.length ≤ cnt (nsA l) := by
  obtain ⟨i, hi⟩ := List.getElem?_of_mem hx
  have h1 := cnt_step hi
  have h2 := cnt_le hp (i + 1)
  have h3 := cnt_pos' hp i
  have h4 := Nat.le_mul_of_pos_left x.2.length h3
  omega
theorem chk_lt (l : List Ax) : chk l < 10 := by
  have hb : ∀ (l : List Ax) (seen : List W), bad seen l < 10 := by
    intro l
    induction l with
    | nil => intro seen; simp [bad]
    | cons a l ih =>
      intro seen
      rw [bad]
      split
      · omega
      · split
        · omega
        · exact ih _
  unfold chk
  split
  · exact hb _ _
  · split <;> omega
theorem Rows_ct {L : RL} {v : Value} {l : List Ax} {cs : List Value} (hv : SV 2 L v l.length cs) (hx : AxR L l cs) (hn : l.length ≤ 1000000) (hm : ∀ x, x ∈ l → x.2.length ≤ 140737488355328) :
    CS Try.prog 16 [v] L (RowsR l L) := by
  suffices h : CS Try.prog 16 [v] L fun v L' => ∃ L₁, Sub L₁ L' ∧ RowsR l L v L₁ from h.less fun v L' h => h
  obtain ⟨A, c, rfl⟩ := hv.form
  have hlt := chk_lt l
  refine CS.mk (fn := Try.f16) rfl rfl rfl rfl ?_
  refine yG ?_
  refine OS.call noGo rfl (fun _ => rfl) ((check_ct hv hx hn hm).mono ?_)
  rintro v' L2 ⟨rfl, hL⟩
  rw [hL]
  clear hL
  by_cases hz : chk l = 0
  rotate_left
  · have hb : (!ieqB ((chk l : Nat) : Int) 0) = true := by rw [ieqB_eq]; simp; omega
    refine yG ?_
    exact ⟨L, Sub.drops 0 rfl, .inl ⟨hz, rfl, rfl⟩⟩
  obtain ⟨hp, h24⟩ := chk_zero hz
  have hb : (!ieqB ((chk l : Nat) : Int) 0) = false := by rw [hz]; rfl
  have hlens : lens (vlsA l) = nsA l := by simp [lens, vlsA, nsA]
  have hrl : (rowsL (vlsA l)).length = cnt (nsA l) := by rw [rows_len, hlens]
  refine yG ?_
  refine OS.fresh rfl (e_new (fun _ => rfl) rfl) (fun _ => rfl) (fun rl => ?_)
  refine yG ?_
  refine OS.call noGo rfl (fun _ => rfl) ((rows_ct).mono ?_)
  rintro v' L2 ⟨rb, rfl, rfl⟩
  refine ⟨_, rfl, ?_⟩
  refine OS.nil ?_
  repeat refine LS.seq ?_
  refine LS.block ?_
  refine LS.rangeFunc noGo rfl (fun r => ?_)
  generalize hp0 : LP.start _ _ _ _ = p0
  have hmax : ∀ x, x ∈ l → x.2.length ≤ 24 := fun x hx => Nat.le_trans (le_cnt hp hx) h24
  refine CS.sub (Sub.pulls [1] rfl) ((rows1_ct (G := (r, .loop p0) :: (rl, .cells 38 [.slice none 0 0]) :: []) (F := L) hv hx rfl hn hp hmax (fun k G => ∃ lv HY t, G = (r, .loop p0) :: (rl, .cells 38 [lv]) :: (HY ++ rrs t.reverse) ∧ t.length = k ∧ t.map (·.2) = (rowsL (vlsA l)).take k ∧ GV tS 1 [] lv k (rvs t) HY)
    (fun k G ⟨lv, HY, t, hG, _⟩ => ⟨p0, by rw [hG]; simp⟩) ⟨.slice none 0 0, [], [], rfl, rfl, rfl, .nil⟩ ?_).mono ?_)
  · rintro k G X ry hk ⟨lv, HY, t, rfl, htl, htm, hg⟩
    have hra := rows_at (vlsA l) k (by rw [hlens]; exact hk)
    have hwl : (Mx.rowAt (vlsA l) k).length = l.length := by
      rw [Mx.rowAt, pick_len _ _ (by rw [dig_len, hlens, ns_len]; simp [vlsA])]; simp [vlsA]
    generalize Mx.rowAt (vlsA l) k = w at hra hwl
    refine YS.sub (L' := (ry, .cells 9 (strs w)) :: (r, .loop p0) :: (rl, .cells 38 [lv]) :: (HY ++ (rrs t.reverse ++ X))) (Sub.sums fun f => by simp <;> omega) ?_
    have hgX := hg.appendR (rrs t.reverse ++ X)
    have hone : oneB lv = true ∧ lv.cells.toList = [lv] := by
      rcases hg with ⟨rfl, _, _, _⟩ | ⟨r, rfl, _, _⟩ <;> exact ⟨rfl, rfl⟩
    subst hp0
    refine YS.mk 1 rfl rfl rfl ?_
    refine LS.region rfl ?_
    refine OS.pure rfl (fun _ => rfl) rfl ?_
    refine OS.nil ?_
    refine ⟨rfl, 1, _, rfl, rfl, ?_⟩
    repeat refine LS.seq ?_
    refine LS.block ?_
    repeat refine LS.seq ?_
    refine LS.region rfl ?_
    refine OS.read rfl (e_load 2 rfl rfl rfl rfl (part_one rfl rfl)) rfl ?_
    refine OS.pure rfl (fun _ => rfl) rfl ?_
    refine OS.fresh rfl (e_new (fun _ => rfl) rfl) (fun _ => rfl) (fun rn => ?_)
    refine OS.fresh rfl (e_appendGV [_, _, _, _] (m := 1) (sz := 1) (bts := 24) hgX (SV.row (sz := 1) (n := 1) (List.mem_cons_self ..) rfl) (by omega) rfl rfl rfl rfl (by omega) (by omega)) (fun _ => rfl) (fun r2 => ?_)
    refine OS.write rfl (e_store 4 (n := 1) (cs' := [.slice (some ⟨r2, 0, none⟩) (k + 1) openCap]) rfl rfl rfl rfl rfl rfl rfl rfl) rfl ?_
    refine OS.sub (Sub.drop 1 rfl) ?_
    refine OS.sub (Sub.pulls [3, 3] rfl) ?_
    refine OS.nil ?_
    refine ⟨0, _, rfl, rfl, (r, .loop _) :: (rl, .cells 38 [.slice (some ⟨r2, 0, none⟩) (k + 1) openCap]) :: ([(r2, .cells tS (rvs t ++ [.slice (some ⟨ry, 0, none⟩) l.length openCap]))] ++ rrs (t ++ [(ry, w)]).reverse), rfl, ?_, _, _, t ++ [(ry, w)], rfl, by simp [htl], ?_, ?_⟩
    · rw [List.reverse_append]; rfl
    · rw [List.map_append, htm, List.take_add_one, hra]; rfl
    · rw [rvs_snoc, ← hwl]
      exact GV.of (by rw [List.length_append, rvs_len, htl]; simp)
  · rintro v L' ⟨G', ⟨lv, HY, t, rfl, htl, htm, hg⟩, rfl⟩
    rw [List.take_of_length_le (by omega)] at htm
    refine ⟨0, p0, _, rfl, rfl, by subst hp0; simp [LP.start], ?_⟩
    have hpend : p0.pending = none := by subst hp0; rfl
    rw [hpend]
    show LSr _ _ _ _ _ _
    have hf : ∃ A c, lv = .slice A (cnt (nsA l)) c := by
      rcases hg with ⟨rfl, h0, _, _⟩ | ⟨r, rfl, _, _⟩
      · exact ⟨_, _, by rw [h0]⟩
      · exact ⟨_, _, rfl⟩
    obtain ⟨A', c', rfl⟩ := hf
    refine yG ?_
    exact ⟨HY ++ (rrs t ++ L), (Sub.sums fun f => by simp [rrs, List.map_reverse, List.sum_reverse] <;> omega).trans (Sub.drops 1 rfl), .inr ⟨hz, A', c', t, HY, rfl, htm, hg, rfl⟩⟩
end Go.Proofs.Ytllcbjaajffaeaa

/- Layer 15: the law GraphBoth. -/
import Derived.Test.YteakbbnlkjckhaaGrR
namespace Go.Gp
set_option linter.unusedVariables false
set_option linter.unusedSimpArgs false
/-- A square, row by row. -/
def mat (f : Nat → Nat → Nat) (N : Nat) : List Nat := (List.range (N * N)).map fun t => f (t / N) (t % N)
theorem mat_len (f : Nat → Nat → Nat) (N : Nat) : (mat f N).length = N * N := by simp [mat]
theorem idx_lt {N x y : Nat} (hx : x < N) (hy : y < N) : x * N + y < N * N := by
  have h1 : (x + 1) * N ≤ N * N := Nat.mul_le_mul_right _ hx
  rw [Nat.succ_mul] at h1
  omega
theorem idx_div {N x y : Nat} (hy : y < N) : (x * N + y) / N = x := by
  rw [Nat.add_comm, Nat.add_mul_div_right _ _ (by omega), Nat.div_eq_of_lt hy, Nat.zero_add]
theorem idx_mod {N x y : Nat} (hy : y < N) : (x * N + y) % N = y := by
  rw [Nat.add_comm, Nat.add_mul_mod_self_right, Nat.mod_eq_of_lt hy]
theorem mat_at {f : Nat → Nat → Nat} {N x y : Nat} (hx : x < N) (hy : y < N) : (mat f N)[x * N + y]? = some (f x y) := by
  unfold mat
  rw [List.getElem?_map, List.getElem?_range (idx_lt hx hy)]
  simp only [Option.map_some, idx_div hy, idx_mod hy]
theorem mat_get {f : Nat → Nat → Nat} {N t : Nat} (ht : t < N * N) : (mat f N)[t]? = some (f (t / N) (t % N)) := by
  unfold mat
  rw [List.getElem?_map, List.getElem?_range ht]; rfl
theorem div_lt {N t : Nat} (ht : t < N * N) : t / N < N ∧ t % N < N := by
  have hN : 0 < N := by
    rcases Nat.eq_zero_or_pos N with rfl | h
    · simp at ht
    · exact h
  exact ⟨Nat.div_lt_of_lt_mul ht, Nat.mod_lt _ hN⟩
theorem mat_congr {f g : Nat → Nat → Nat} {N : Nat} (h : ∀ x y, x < N → y < N → f x y = g x y) : mat f N = mat g N := by
  unfold mat
  refine List.map_congr_left fun t ht => ?_
  obtain ⟨h1, h2⟩ := div_lt (List.mem_range.1 ht)
  exact h _ _ h1 h2
theorem mat_set {f g : Nat → Nat → Nat} {N x y v : Nat} (hx : x < N) (hy : y < N) (h : ∀ x' y', x' < N → y' < N → g x' y' = if x' = x ∧ y' = y then v else f x' y') : (mat f N).set (x * N + y) v = mat g N := by
  apply List.ext_getElem?
  intro t
  rw [List.getElem?_set]
  by_cases ht : t < N * N
  · obtain ⟨h1, h2⟩ := div_lt ht
    have e : t / N * N + t % N = t := by have := Nat.div_add_mod t N; rw [Nat.mul_comm] at this; exact this
    rw [mat_get ht, mat_get ht, h _ _ h1 h2]
    by_cases hi : x * N + y = t
    · rw [if_pos hi, if_pos (by rw [mat_len]; omega), if_pos ⟨by rw [← hi, idx_div hy], by rw [← hi, idx_mod hy]⟩]
    · rw [if_neg hi, if_neg fun hh => hi (by rw [← hh.1, ← hh.2]; exact e)]
  · rw [List.getElem?_eq_none (by rw [mat_len]; omega), if_neg (by have := idx_lt hx hy; omega), List.getElem?_eq_none (by rw [mat_len]; omega)]
def b1 (b : Bool) : Nat := if b then 1 else 0
/-- What was counted: of all things ahead of i, and of so many that i rests on, and of so many that rest on it. -/
def cel (A B : Nat → List Nat) (i ka kb : Nat) (x y : Nat) : Nat :=
  (if x < i then b1 ((A x).contains y) else if x = i then b1 (((A x).take ka).contains y) else 0) + 2 * (if y < i then b1 ((B y).contains x) else if y = i then b1 (((B y).take kb).contains x) else 0)
theorem take_new {l : List Nat} (hd : l.Nodup) {k z : Nat} (hz : l[k]? = some z) : z ∉ l.take k := fun hm => by
  obtain ⟨q, hq⟩ := List.getElem?_of_mem hm
  have hlt : q < k := by
    have := (List.getElem?_eq_some_iff.1 hq).1
    simp at this; omega
  rw [List.getElem?_take, if_pos hlt] at hq
  have := (List.getElem?_inj (List.getElem?_eq_some_iff.1 hq).1 hd).1 (hq.trans hz.symm)
  omega
theorem con_snoc {l : List Nat} {k z : Nat} (hz : l[k]? = some z) (y : Nat) : (l.take (k + 1)).contains y = ((l.take k).contains y || decide (y = z)) := by
  rw [take_snoc' hz, Bool.eq_iff_iff]
  simp only [List.contains_iff_mem, List.mem_append, List.mem_singleton, Bool.or_eq_true, decide_eq_true_eq]
theorem cel_a {A B : Nat → List Nat} {i k z : Nat} (hd : (A i).Nodup) (hz : (A i)[k]? = some z) (x y : Nat) : cel A B i (k + 1) 0 x y = if x = i ∧ y = z then cel A B i k 0 i z + 1 else cel A B i k 0 x y := by
  unfold cel
  by_cases hx : x = i
  · subst hx
    simp only [Nat.lt_irrefl, if_false, if_true, true_and]
    rw [con_snoc hz y]
    by_cases hy : y = z
    · subst hy
      have : ((A x).take k).contains y = false := by rw [← Bool.not_eq_true, List.contains_iff_mem]; exact take_new hd hz
      simp only [this, if_true, decide_true, Bool.or_true, b1, Bool.false_eq_true, if_false]; first | done | omega
    · simp [hy]
  · simp [hx]
theorem cel_b {A B : Nat → List Nat} {i k z m : Nat} (hd : (B i).Nodup) (hz : (B i)[k]? = some z) (x y : Nat) : cel A B i m (k + 1) x y = if x = z ∧ y = i then cel A B i m k z i + 2 else cel A B i m k x y := by
  unfold cel
  by_cases hy : y = i
  · subst hy
    simp only [Nat.lt_irrefl, if_false, if_true, and_true]
    rw [con_snoc hz x]
    by_cases hx : x = z
    · subst hx
      have : ((B y).take k).contains x = false := by rw [← Bool.not_eq_true, List.contains_iff_mem]; exact take_new hd hz
      simp only [this, if_true, decide_true, Bool.or_true, b1, Bool.false_eq_true, if_false]; first | done | omega
    · simp [hx]
  · simp [hy]
theorem cel_next {A B : Nat → List Nat} {i ka kb : Nat} (ha : (A i).length ≤ ka) (hb : (B i).length ≤ kb) (x y : Nat) : cel A B i ka kb x y = cel A B (i + 1) 0 0 x y := by
  unfold cel
  congr 1
  · by_cases h1 : x < i
    · rw [if_pos h1, if_pos (by omega)]
    · rw [if_neg h1]
      by_cases h2 : x = i
      · subst h2; rw [if_pos rfl, if_pos (by omega), List.take_of_length_le ha]
      · rw [if_neg h2, if_neg (by omega)]
        by_cases h3 : x = i + 1
        · rw [if_pos h3]; simp [b1]
        · rw [if_neg h3]
  · congr 1
    by_cases h1 : y < i
    · rw [if_pos h1, if_pos (by omega)]
    · rw [if_neg h1]
      by_cases h2 : y = i
      · subst h2; rw [if_pos rfl, if_pos (by omega), List.take_of_length_le hb]
      · rw [if_neg h2, if_neg (by omega)]
        by_cases h3 : y = i + 1
        · rw [if_pos h3]; simp [b1]
        · rw [if_neg h3]
theorem cel_start (A B : Nat → List Nat) (x y : Nat) : cel A B 0 0 0 x y = 0 := by
  unfold cel
  by_cases h1 : x = 0 <;> by_cases h2 : y = 0 <;> simp [h1, h2, b1]
theorem cel_end {A B : Nat → List Nat} {N x y : Nat} (hx : x < N) (hy : y < N) (h : (A x).contains y = (B y).contains x) : cel A B N 0 0 x y = 0 ∨ cel A B N 0 0 x y = 3 := by
  unfold cel
  rw [if_pos hx, if_pos hy, h]
  cases (B y).contains x <;> simp [b1]
theorem cel_le (A B : Nat → List Nat) (i ka kb x y : Nat) : cel A B i ka kb x y ≤ 3 := by
  have hb : ∀ b : Bool, b1 b ≤ 1 := fun b => by cases b <;> simp [b1]
  unfold cel
  have h1 := hb ((A x).contains y)
  have h2 := hb (((A x).take ka).contains y)
  have h3 := hb ((B y).contains x)
  have h4 := hb (((B y).take kb).contains x)
  repeat' split
  all_goals omega
theorem picks_nodup (b : Nat → Bool) (n : Nat) : (picks b n).Nodup := List.nodup_range.filter _
end Go.Gp
namespace Go.Proofs.Yteakbbnlkjckhaa
open Go.Am Go.Gp
set_option linter.unusedVariables false
set_option linter.unusedSimpArgs false
set_option maxRecDepth 20000
set_option maxHeartbeats 4000000
attribute [local irreducible] OS LSr ODS CS
theorem bothLaw_ct {L : RL} {v : Value} {Z : List (List Int)} (hv : NL L v (zv Z)) (hf : Fits Z) : CS Try.prog 8 [v] L fun u _ => u = .bool true := by
  have aw : ∀ L : RL, CS Try.prog 9 [] L fun v L' => v = .bool true ∧ L' = L := fun L => works_ct
  have hZl := hf.1
  refine CS.mk (fn := Try.f8) rfl rfl rfl rfl ?_
  refine yG ?_
  refine OS.callS noGo rfl (fun _ => rfl) (aw _) rfl ?_
  refine yG ?_
  refine OS.call noGo rfl (fun _ => rfl) ((large_ct hv hf 40 (by omega)).mono ?_)
  rintro u L2 ⟨b, rfl, hb, hL⟩
  rw [hL]
  clear hL
  rcases tf b with h | h
  · rw [h]
    refine yG ?_
    refine OS.callS noGo rfl (fun _ => rfl) (aw _) rfl ?_
    refine yG ?_
    rfl
  obtain ⟨h1, h2⟩ := hb h
  rw [h]
  obtain ⟨ics, hs, hg⟩ := hv.ofZ
  have hAn : ∀ i : Nat, (belowZ Z (i : Nat)).Nodup ∧ ∀ x, x ∈ belowZ Z (i : Nat) → x < Z.length := fun i => by
    unfold belowZ
    split
    · rename_i h
      have hm : may Z = true := by unfold okT at h; simp at h; exact h.1
      exact ⟨picks_nodup _ _, fun x hx => by have := ((mem_below (nat_ok hm)).1 hx).in (nat_ok hm); rw [nat_len] at this; exact this⟩
    · exact ⟨List.nodup_nil, fun x hx => by cases hx⟩
  have hBn : ∀ i : Nat, (aboveZ Z (i : Nat)).Nodup ∧ ∀ x, x ∈ aboveZ Z (i : Nat) → x < Z.length := fun i => by
    unfold aboveZ
    split
    · exact ⟨picks_nodup _ _, fun x hx => by have := (mem_above.1 hx).lt; rw [nat_len] at this; exact this⟩
    · exact ⟨List.nodup_nil, fun x hx => by cases hx⟩
  have hAB : ∀ x y : Nat, x < Z.length → y < Z.length → (belowZ Z (x : Nat)).contains y = (aboveZ Z (y : Nat)).contains x := fun x y hx hy => by
    rw [Bool.eq_iff_iff, List.contains_iff_mem, List.contains_iff_mem]
    unfold belowZ aboveZ
    have e1 : okT Z (x : Nat) = may Z := by unfold okT isT; rw [decide_eq_true ⟨by omega, by omega⟩]; simp
    have e2 : okT Z (y : Nat) = may Z := by unfold okT isT; rw [decide_eq_true ⟨by omega, by omega⟩]; simp
    rw [e1, e2, Int.toNat_natCast, Int.toNat_natCast]
    rcases tf (may Z) with hm | hm
    · rw [hm, if_pos rfl, if_pos rfl, mem_below (nat_ok hm), mem_above]
    · rw [hm, if_neg (by simp), if_neg (by simp)]; simp
  have hBel := fun (X : RL) (i : Nat) => Below_ct (hv.mono (L' := X ++ L) fun p hp => List.mem_append_right _ hp) (i : Nat)
  have hAbv := fun (X : RL) (i : Nat) => Above_ct (hv.mono (L' := X ++ L) fun p hp => List.mem_append_right _ hp) (i : Nat)
  generalize hAd : (fun i : Nat => belowZ Z (i : Nat)) = A
  generalize hBd : (fun i : Nat => aboveZ Z (i : Nat)) = B
  have hA' : ∀ i : Nat, belowZ Z (i : Nat) = A i := fun i => by rw [← hAd]
  have hB' : ∀ i : Nat, aboveZ Z (i : Nat) = B i := fun i => by rw [← hBd]
  simp only [hA'] at hAn hAB hBel
  simp only [hB'] at hBn hAB hAbv
  clear hAd hBd hA' hB'
  generalize Z.length = N at h1 hs hAn hBn hAB
  have hNN : N * N ≤ 40 * 40 := Nat.mul_le_mul h1 h1
  refine yG ?_
  refine OS.pure rfl (e_is (v' := iN (N * N)) (e_mul (m := (N : Int)) (n := (N : Int)) rfl rfl rfl (by rw [← Int.natCast_mul]; exact in_i64 (by omega) (by omega))) (congrArg (Value.int .i64) (by rw [Int.natCast_mul]))) rfl ?_
  refine OS.fresh rfl (e_make (l := N * N) (c := N * N) rfl rfl rfl makeT_ints (Nat.le_refl _) (by omega) (by omega)) (fun _ => rfl) (fun rr => ?_)
  rw [show repL [iN 0] (N * N) = ns (mat (cel A B 0 0 0) N) by
    rw [repl_zero]
    congr 1
    rw [mat_congr (g := fun _ _ => 0) fun x y _ _ => cel_start A B x y]
    unfold mat
    simp [List.map_const']]
  refine yG ?_
  refine LS.loopJ [0, 3, 4, 5] (fun q a L' => ∃ i : Nat, q = N - i ∧ i ≤ N ∧ L' = (rr, .cells tI (ns (mat (cel A B i 0 0) N))) :: L ∧ a = [v, .chan none, .chan none, iN N, .slice (some ⟨rr, 0, none⟩) (N * N) (N * N), iN i, .chan none, .chan none, .chan none, .chan none, .chan none, .chan none, .chan none, .chan none, .chan none, .chan none, .chan none, .chan none, .chan none, .chan none, .chan none, .chan none, .chan none, .chan none, .chan none, .chan none, .chan none, .chan none, .chan none, .chan none, .chan none, .chan none, .chan none, .chan none, .chan none, .chan none, .chan none, .chan none, .chan none, .chan none, .chan none, .chan none, .chan none, .chan none, .chan none, .chan none, .chan none, .chan none, .chan none, .chan none, .chan none, .chan none, .chan none, .chan none, .chan none, .chan none, .chan none, .chan none, .chan none, .chan none, .chan none, .chan none, .chan none, .chan none, .chan none, .chan none, .chan none, .chan none, .chan none, .chan none, .chan none, .chan none, .chan none, .chan none, .chan none, .chan none, .chan none, .chan none, .chan none, .chan none, .chan none, .chan none, .chan none, .chan none, .chan none, .chan none, .chan none, .chan none, .chan none, .chan none, .chan none, .chan none, .chan none, .chan none, .chan none, .chan none, .chan none, .chan none, .chan none, .chan none, .chan none, .chan none, .chan none, .chan none, .chan none, .chan none, .chan none, .chan none, .chan none, .chan none, .chan none, .chan none, .chan none, .chan none, .chan none, .chan none, .chan none, .chan none, .chan none, .chan none, .chan none]) (n := N) rfl ⟨0, rfl, by omega, rfl, rfl⟩ ?_
  rintro q a L' ⟨i, rfl, hi, rfl, rfl⟩
  have hmt : ∀ (f : Nat → Nat → Nat) (F : RL), SV 1 ((rr, ARow.cells tI (ns (mat f N))) :: F) (.slice (some ⟨rr, 0, none⟩) (N * N) (N * N)) (N * N) (ns (mat f N)) := fun f F => SV.row (List.mem_cons_self ..) (by rw [ns_len, mat_len]; simp)
  by_cases hin : i < N
  · have hbi : (!ileB ((N : Nat) : Int) (i : Nat)) = true := by rw [ileB_eq]; simp; omega
    obtain ⟨hAd, hAl⟩ := hAn i
    obtain ⟨hBd, hBl⟩ := hBn i
    have lA := nodup_len N (A i) hAd hAl
    have lB := nodup_len N (B i) hBd hBl
    have c1' := hBel [(rr, .cells tI (ns (mat (cel A B i 0 0) N)))] i
    have c2' := fun Y : RL => hAbv (Y ++ [(rr, .cells tI (ns (mat (cel A B i 0 0) N)))]) i
    generalize hE : (if okT Z ((i : Nat) : Int) then 0 else 1) = E at c1' c2'
    have g1 : (!ieqB ((E : Nat) : Int) (E : Nat)) = false := by rw [ieqB_eq]; simp
    refine yG ?_
    refine OS.call noGo rfl (fun _ => rfl) ((c1').mono ?_)
    rintro u1 L2 ⟨Y1, A1, q1, rfl, rfl, hs1⟩
    refine yG ?_
    rw [show Y1 ++ ([(rr, ARow.cells tI (ns (mat (cel A B i 0 0) N)))] ++ L) = (Y1 ++ [(rr, ARow.cells tI (ns (mat (cel A B i 0 0) N)))]) ++ L by simp]
    refine OS.call noGo rfl (fun _ => rfl) ((c2' Y1).mono ?_)
    rintro u2 L2 ⟨Y2, A2, q2, rfl, rfl, hs2⟩
    refine ⟨_, rfl, ?_⟩
    refine OS.sub (Sub.sums (A := (rr, .cells tI (ns (mat (cel A B i 0 0) N))) :: (Y2 ++ (Y1 ++ L))) fun f => by simp; omega) ?_
    have m1 := fun x : Nat × ARow => (hs1.mono (L' := Y2 ++ (Y1 ++ L)) fun p hp => List.mem_append_right _ (List.mem_append_left _ hp)).cons (x := x)
    have m2 := fun x : Nat × ARow => (hs2.mono (L' := Y2 ++ (Y1 ++ L)) fun p hp => List.mem_append_left _ hp).cons (x := x)
    have hFd : Sub L (Y2 ++ (Y1 ++ L)) := (sub_front Y1 L).trans (sub_front Y2 _)
    have hdrop : ∀ x : Nat × ARow, Sub (x :: L) (x :: (Y2 ++ (Y1 ++ L))) := fun x => Sub.sums2 (Y2 ++ Y1) fun f => by simp; omega
    clear hs1 hs2 c1' c2' hFd
    generalize Y2 ++ (Y1 ++ L) = F at m1 m2 hdrop
    have him : i * N ≤ N * N := Nat.mul_le_mul_right _ hi
    have hin' : i * N = i * N := rfl
    refine yG ?_
    refine LS.loopJ [0, 3, 4, 5, 6, 8, 10] (fun q a L' => ∃ k : Nat, q = (A i).length - k ∧ k ≤ (A i).length ∧ L' = (rr, .cells tI (ns (mat (cel A B i k 0) N))) :: F ∧ a = [v, .chan none, .chan none, iN N, .slice (some ⟨rr, 0, none⟩) (N * N) (N * N), iN i, .slice A1 (A i).length q1, .chan none, .slice A2 (B i).length q2, .chan none, iN k, .chan none, .chan none, .chan none, .chan none, .chan none, .chan none, .chan none, .chan none, .chan none, .chan none, .chan none, .chan none, .chan none, .chan none, .chan none, .chan none, .chan none, .chan none, .chan none, .chan none, .chan none, .chan none, .chan none, .chan none, .chan none, .chan none, .chan none, .chan none, .chan none, .chan none, .chan none, .chan none, .chan none, .chan none, .chan none, .chan none, .chan none, .chan none, .chan none, .chan none, .chan none, .chan none, .chan none, .chan none, .chan none, .chan none, .chan none, .chan none, .chan none, .chan none, .chan none, .chan none, .chan none, .chan none, .chan none, .chan none, .chan none, .chan none, .chan none, .chan none, .chan none, .chan none, .chan none, .chan none, .chan none, .chan none, .chan none, .chan none, .chan none, .chan none, .chan none, .chan none, .chan none, .chan none, .chan none, .chan none, .chan none, .chan none, .chan none, .chan none, .chan none, .chan none, .chan none, .chan none, .chan none, .chan none, .chan none, .chan none, .chan none, .chan none, .chan none, .chan none, .chan none, .chan none, .chan none, .chan none, .chan none, .chan none, .chan none, .chan none, .chan none, .chan none, .chan none, .chan none, .chan none, .chan none, .chan none, .chan none, .chan none, .chan none]) (n := (A i).length) rfl ⟨0, rfl, by omega, rfl, rfl⟩ ?_
    rintro q a L' ⟨k, rfl, hk, rfl, rfl⟩
    have n1 := m1 (rr, .cells tI (ns (mat (cel A B i k 0) N)))
    by_cases hkl : k < (A i).length
    · have hbk : (!ileB (((A i).length : Nat) : Int) (k : Nat)) = true := by rw [ileB_eq]; simp; omega
      obtain ⟨z, hz⟩ := ext_list hkl
      have hzn := hAl z (List.mem_of_getElem? hz)
      have hcl := cel_le A B i k 0 i z
      have hset : (mat (cel A B i k 0) N).set (i * N + z) (cel A B i k 0 i z + 1) = mat (cel A B i (k + 1) 0) N := mat_set hin hzn fun x y _ _ => cel_a hAd hz x y
      have hlt := idx_lt hin hzn
      refine yG ?_
      repeat refine LS.seq ?_
      refine LS.drawn noGo mixed [(0, false), (1, false), (2, false), (3, false), (4, false), (5, false), (6, false), (7, false), (8, false), (9, false), (10, false), (11, false), (12, false), (13, false), (14, false), (15, false), (16, false), (17, false), (18, false), (19, false), (20, false), (21, false), (22, true)] rfl rfl (by kernel_rfl) ?_
      refine yG ?_
      refine ODS.pure rfl rfl (e_is (v' := iN (i * N)) (e_mul (m := (i : Int)) (n := (N : Int)) rfl rfl rfl (by rw [← Int.natCast_mul]; exact in_i64 (by omega) (by omega))) (congrArg (Value.int .i64) (by rw [Int.natCast_mul]))) rfl ?_
      refine yG ?_
      refine ODS.at1 (j := k) (n1) (ns_at hz) rfl rfl rfl rfl rfl rfl rfl (fun ra0 oa0 rowa0 csa0 ma0 ca0 ga0 => ⟨_, rfl, ?_⟩)
      refine ODS.read rfl rfl (e_loadm ma0 ca0 rfl rfl (part_one rfl ga0)) rfl ?_
      refine yG ?_
      refine ODS.pure rfl rfl (e_is (v' := iN (i * N)) (e_mul (m := (i : Int)) (n := (N : Int)) rfl rfl rfl (by rw [← Int.natCast_mul]; exact in_i64 (by omega) (by omega))) (congrArg (Value.int .i64) (by rw [Int.natCast_mul]))) rfl ?_
      refine yG ?_
      refine ODS.at1 (j := k) (n1) (ns_at hz) rfl rfl rfl rfl rfl rfl rfl (fun ra1 oa1 rowa1 csa1 ma1 ca1 ga1 => ⟨_, rfl, ?_⟩)
      refine ODS.read rfl rfl (e_loadm ma1 ca1 rfl rfl (part_one rfl ga1)) rfl ?_
      refine yG ?_
      refine ODS.at1 (j := (i * N + z)) (hmt _ F) (ns_at (mat_at hin hzn)) rfl rfl rfl rfl rfl rfl rfl (fun ra2 oa2 rowa2 csa2 ma2 ca2 ga2 => ⟨_, rfl, ?_⟩)
      refine ODS.read rfl rfl (e_loadm ma2 ca2 rfl rfl (part_one rfl ga2)) rfl ?_
      refine yG ?_
      refine ODS.pure rfl rfl (e_index (j := i * N + z) (sz := 1) rfl rfl rfl Try.underlying23 rfl hlt) rfl ?_
      refine ODS.write rfl rfl (e_store 0 (n := 1) (cs' := ns (mat (cel A B i (k + 1) 0) N)) rfl rfl rfl rfl rfl rfl (by rw [← hset]; exact lay_op (by rw [mat_len]; exact hlt)) rfl) rfl (Keep.gone rfl (Keep.gone rfl (Keep.gone rfl Keep.nil))) ?_
      refine yG ?_
      exact ⟨(A i).length - (k + 1), by omega, k + 1, rfl, by omega, rfl, rfl⟩
    have hbk : (!ileB (((A i).length : Nat) : Int) (k : Nat)) = false := by rw [ileB_eq]; simp; omega
    obtain rfl : k = (A i).length := by omega
    refine yG ?_
    refine LS.exit ?_
    refine yG ?_
    refine LS.loopJ [0, 3, 4, 5, 8, 11] (fun q a L' => ∃ k : Nat, q = (B i).length - k ∧ k ≤ (B i).length ∧ L' = (rr, .cells tI (ns (mat (cel A B i (A i).length k) N))) :: F ∧ a = [v, .chan none, .chan none, iN N, .slice (some ⟨rr, 0, none⟩) (N * N) (N * N), iN i, .chan none, .chan none, .slice A2 (B i).length q2, .chan none, .chan none, iN k, .chan none, .chan none, .chan none, .chan none, .chan none, .chan none, .chan none, .chan none, .chan none, .chan none, .chan none, .chan none, .chan none, .chan none, .chan none, .chan none, .chan none, .chan none, .chan none, .chan none, .chan none, .chan none, .chan none, .chan none, .chan none, .chan none, .chan none, .chan none, .chan none, .chan none, .chan none, .chan none, .chan none, .chan none, .chan none, .chan none, .chan none, .chan none, .chan none, .chan none, .chan none, .chan none, .chan none, .chan none, .chan none, .chan none, .chan none, .chan none, .chan none, .chan none, .chan none, .chan none, .chan none, .chan none, .chan none, .chan none, .chan none, .chan none, .chan none, .chan none, .chan none, .chan none, .chan none, .chan none, .chan none, .chan none, .chan none, .chan none, .chan none, .chan none, .chan none, .chan none, .chan none, .chan none, .chan none, .chan none, .chan none, .chan none, .chan none, .chan none, .chan none, .chan none, .chan none, .chan none, .chan none, .chan none, .chan none, .chan none, .chan none, .chan none, .chan none, .chan none, .chan none, .chan none, .chan none, .chan none, .chan none, .chan none, .chan none, .chan none, .chan none, .chan none, .chan none, .chan none, .chan none, .chan none, .chan none, .chan none, .chan none]) (n := (B i).length) rfl ⟨0, rfl, by omega, rfl, rfl⟩ ?_
    clear n1
    rintro q a L' ⟨k, rfl, hk, rfl, rfl⟩
    have n2 := m2 (rr, .cells tI (ns (mat (cel A B i (A i).length k) N)))
    by_cases hkl : k < (B i).length
    · have hbk : (!ileB (((B i).length : Nat) : Int) (k : Nat)) = true := by rw [ileB_eq]; simp; omega
      obtain ⟨z, hz⟩ := ext_list hkl
      have hzn := hBl z (List.mem_of_getElem? hz)
      have hcl := cel_le A B i (A i).length k z i
      have hset : (mat (cel A B i (A i).length k) N).set (z * N + i) (cel A B i (A i).length k z i + 2) = mat (cel A B i (A i).length (k + 1)) N := mat_set hzn hin fun x y _ _ => cel_b hBd hz x y
      have hlt := idx_lt hzn hin
      have hzm : z * N ≤ N * N := Nat.mul_le_mul_right _ (Nat.le_of_lt hzn)
      refine yG ?_
      repeat refine LS.seq ?_
      refine LS.drawn noGo mixed [(0, false), (1, false), (2, false), (3, false), (4, false), (5, false), (6, false), (7, false), (8, false), (9, false), (10, false), (11, false), (12, false), (13, false), (14, false), (15, false), (16, false), (17, false), (18, false), (19, false), (20, false), (21, false), (22, true)] rfl rfl (by kernel_rfl) ?_
      refine yG ?_
      refine ODS.at1 (j := k) (n2) (ns_at hz) rfl rfl rfl rfl rfl rfl rfl (fun ra0 oa0 rowa0 csa0 ma0 ca0 ga0 => ⟨_, rfl, ?_⟩)
      refine ODS.read rfl rfl (e_loadm ma0 ca0 rfl rfl (part_one rfl ga0)) rfl ?_
      refine yG ?_
      refine ODS.pure rfl rfl (e_is (v' := iN (z * N)) (e_mul (m := (z : Int)) (n := (N : Int)) rfl rfl rfl (by rw [← Int.natCast_mul]; exact in_i64 (by omega) (by omega))) (congrArg (Value.int .i64) (by rw [Int.natCast_mul]))) rfl ?_
      refine yG ?_
      refine ODS.at1 (j := k) (n2) (ns_at hz) rfl rfl rfl rfl rfl rfl rfl (fun ra1 oa1 rowa1 csa1 ma1 ca1 ga1 => ⟨_, rfl, ?_⟩)
      refine ODS.read rfl rfl (e_loadm ma1 ca1 rfl rfl (part_one rfl ga1)) rfl ?_
      refine yG ?_
      refine ODS.pure rfl rfl (e_is (v' := iN (z * N)) (e_mul (m := (z : Int)) (n := (N : Int)) rfl rfl rfl (by rw [← Int.natCast_mul]; exact in_i64 (by omega) (by omega))) (congrArg (Value.int .i64) (by rw [Int.natCast_mul]))) rfl ?_
      refine yG ?_
      refine ODS.at1 (j := (z * N + i)) (hmt _ F) (ns_at (mat_at hzn hin)) rfl rfl rfl rfl rfl rfl rfl (fun ra2 oa2 rowa2 csa2 ma2 ca2 ga2 => ⟨_, rfl, ?_⟩)
      refine ODS.read rfl rfl (e_loadm ma2 ca2 rfl rfl (part_one rfl ga2)) rfl ?_
      refine ODS.pure rfl rfl (y_addN (m := cel A B i (A i).length k z i) (n := 2) rfl rfl rfl (in_i64 (by omega) (by omega))) rfl ?_
      refine yG ?_
      refine ODS.pure rfl rfl (e_index (j := z * N + i) (sz := 1) rfl rfl rfl Try.underlying23 rfl hlt) rfl ?_
      refine ODS.write rfl rfl (e_store 0 (n := 1) (cs' := ns (mat (cel A B i (A i).length (k + 1)) N)) rfl rfl rfl rfl rfl rfl (by rw [← hset]; exact lay_op (by rw [mat_len]; exact hlt)) rfl) rfl (Keep.gone rfl (Keep.gone rfl (Keep.gone rfl Keep.nil))) ?_
      refine yG ?_
      exact ⟨(B i).length - (k + 1), by omega, k + 1, rfl, by omega, rfl, rfl⟩
    have hbk : (!ileB (((B i).length : Nat) : Int) (k : Nat)) = false := by rw [ileB_eq]; simp; omega
    obtain rfl : k = (B i).length := by omega
    refine yG ?_
    refine LS.sub (hdrop _) ?_
    refine LS.exit ?_
    refine yG ?_
    exact ⟨N - (i + 1), by omega, i + 1, rfl, by omega, by rw [mat_congr fun x y _ _ => cel_next (Nat.le_refl _) (Nat.le_refl _) x y], rfl⟩
  · have hbi : (!ileB ((N : Nat) : Int) (i : Nat)) = false := by rw [ileB_eq]; simp; omega
    obtain rfl : i = N := by omega
    have hm0 := hmt (cel A B i 0 0) L
    refine yG ?_
    refine LS.exit ?_
    refine yG ?_
    refine LS.loopJ [3, 4, 12] (fun q a L' => ∃ t : Nat, q = i * i - t ∧ t ≤ i * i ∧ L' = (rr, .cells tI (ns (mat (cel A B i 0 0) i))) :: L ∧ a = [.chan none, .chan none, .chan none, iN i, .slice (some ⟨rr, 0, none⟩) (i * i) (i * i), .chan none, .chan none, .chan none, .chan none, .chan none, .chan none, .chan none, iN t, .chan none, .chan none, .chan none, .chan none, .chan none, .chan none, .chan none, .chan none, .chan none, .chan none, .chan none, .chan none, .chan none, .chan none, .chan none, .chan none, .chan none, .chan none, .chan none, .chan none, .chan none, .chan none, .chan none, .chan none, .chan none, .chan none, .chan none, .chan none, .chan none, .chan none, .chan none, .chan none, .chan none, .chan none, .chan none, .chan none, .chan none, .chan none, .chan none, .chan none, .chan none, .chan none, .chan none, .chan none, .chan none, .chan none, .chan none, .chan none, .chan none, .chan none, .chan none, .chan none, .chan none, .chan none, .chan none, .chan none, .chan none, .chan none, .chan none, .chan none, .chan none, .chan none, .chan none, .chan none, .chan none, .chan none, .chan none, .chan none, .chan none, .chan none, .chan none, .chan none, .chan none, .chan none, .chan none, .chan none, .chan none, .chan none, .chan none, .chan none, .chan none, .chan none, .chan none, .chan none, .chan none, .chan none, .chan none, .chan none, .chan none, .chan none, .chan none, .chan none, .chan none, .chan none, .chan none, .chan none, .chan none, .chan none, .chan none, .chan none, .chan none, .chan none, .chan none, .chan none, .chan none, .chan none, .chan none, .chan none]) (n := i * i) rfl ⟨0, rfl, by omega, rfl, rfl⟩ ?_
    rintro q a L' ⟨t, rfl, ht, rfl, rfl⟩
    refine yG ?_
    refine OS.pure rfl (e_is (v' := iN (i * i)) (e_mul (m := (i : Int)) (n := (i : Int)) rfl rfl rfl (by rw [← Int.natCast_mul]; exact in_i64 (by omega) (by omega))) (congrArg (Value.int .i64) (by rw [Int.natCast_mul]))) rfl ?_
    by_cases htn : t < i * i
    · have hbt : (!ileB ((i * i : Nat) : Int) (t : Nat)) = true := by rw [ileB_eq]; simp; omega
      obtain ⟨d1, d2⟩ := div_lt htn
      have hge := mat_get (f := cel A B i 0 0) htn
      refine yG ?_
      rcases cel_end d1 d2 (hAB _ _ d1 d2) with h0 | h3
      · rw [h0] at hge
        have g0 : (!ieqB ((0 : Nat) : Int) 0) = false := rfl
        refine OS.at1 (j := t) (hm0) (ns_at hge) rfl rfl rfl rfl rfl rfl (fun ra0 oa0 rowa0 csa0 ma0 ca0 ga0 => ⟨_, rfl, ?_⟩)
        refine OS.read rfl (e_loadm ma0 ca0 rfl rfl (part_one rfl ga0)) rfl ?_
        refine yG ?_
        exact ⟨i * i - (t + 1), by omega, t + 1, rfl, by omega, rfl, rfl⟩
      · rw [h3] at hge
        have g0 : (!ieqB ((3 : Nat) : Int) 0) = true := rfl
        have g3 : (!ieqB ((3 : Nat) : Int) 3) = false := rfl
        refine OS.at1 (j := t) (hm0) (ns_at hge) rfl rfl rfl rfl rfl rfl (fun ra0 oa0 rowa0 csa0 ma0 ca0 ga0 => ⟨_, rfl, ?_⟩)
        refine OS.read rfl (e_loadm ma0 ca0 rfl rfl (part_one rfl ga0)) rfl ?_
        refine yG ?_
        refine OS.at1 (j := t) (hm0) (ns_at hge) rfl rfl rfl rfl rfl rfl (fun ra1 oa1 rowa1 csa1 ma1 ca1 ga1 => ⟨_, rfl, ?_⟩)
        refine OS.read rfl (e_loadm ma1 ca1 rfl rfl (part_one rfl ga1)) rfl ?_
        refine yG ?_
        exact ⟨i * i - (t + 1), by omega, t + 1, rfl, by omega, rfl, rfl⟩
    · have hbt : (!ileB ((i * i : Nat) : Int) (t : Nat)) = false := by rw [ileB_eq]; simp; omega
      refine yG ?_
      refine LS.exit ?_
      refine yG ?_
      rfl
end Go.Proofs.Yteakbbnlkjckhaa

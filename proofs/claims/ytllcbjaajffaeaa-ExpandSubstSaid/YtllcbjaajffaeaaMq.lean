/- Layer 14: the laws MatrixLabels, MatrixBack. -/
import Derived.Test.YtllcbjaajffaeaaMo
namespace Go.Mx
theorem mk_ge (e : UInt8) : ∀ s : B, s.length ≤ (mk e s).length
  | [] => by simp [mk]
  | c :: s => by
    have := mk_ge e s
    simp only [mk, List.length_append, List.length_cons]
    split <;> simp <;> omega
theorem vals_ge : ∀ (e : UInt8) (vs : List B), vlen vs ≤ 2 * (vals e vs).length ∧ vs.length ≤ (vals e vs).length
  | _, [] => by simp [vals, vlen]
  | e, w :: vs => by
    obtain ⟨h1, h3⟩ := vals_ge 44 vs
    have h2 := mk_ge 44 w
    simp only [vals, vlen, List.map_cons, List.sum_cons, List.length_cons, List.length_append]
    unfold vlen at h1
    omega
theorem label_len (n : B) (vs : List B) : 2 * n.length + vlen vs ≤ 2 * (label n vs).length ∧ vs.length ≤ (label n vs).length := by
  obtain ⟨h1, h2⟩ := vals_ge 58 vs
  have h3 := mk_ge 58 n
  unfold label
  rw [List.length_append]
  omega
theorem parsed_label {s : B} {l : List B} (h : ps 58 [] s = some l) : ∃ n vs, l = n :: vs ∧ label n vs = s := by
  obtain ⟨p, vs, rfl, h2⟩ := forth s.length 58 s [] l (by decide) (Nat.le_refl _) h
  exact ⟨p, vs, rfl, by rw [label, h2]; simp [mk]⟩
end Go.Mx
namespace Go.Proofs.Ytllcbjaajffaeaa
open Go.Am Go.Mx
set_option linter.unusedVariables false
set_option linter.unusedSimpArgs false
set_option maxRecDepth 20000
set_option maxHeartbeats 4000000
attribute [local irreducible] OS LSr ODS CS YS OGS OT
theorem same_bytes (s : W) : bytesEq s s = true := by rw [beq_bytes]; simp
theorem labelsLaw_ct {L : RL} {v : Value} {n s : W} {row : List W} (hv : SV 1 L v row.length (strs row)) (hr : row.length ≤ 1048576) (hw : ∀ w, w ∈ row → w.length ≤ 1048576) (hn : n.length ≤ 1048576) (hs : s.length ≤ 1048576) :
    CS Try.prog 5 [str n, v, str s] L fun u _ => u = .bool true := by
  have aw : ∀ L : RL, CS Try.prog 14 [] L fun v L' => v = .bool true ∧ L' = L := fun L => awake_ct
  have hvl : 2 * n.length + vlen row ≤ 40000000000000 := by
    have h1 := vlen_le hw
    have h2 := Nat.mul_le_mul_right (1 + 2 * 1048576) hr
    omega
  refine CS.mk (fn := Try.f5) rfl rfl rfl rfl ?_
  refine yG ?_
  refine OS.call noGo rfl (fun _ => rfl) ((long_ct hv (by omega) (fun w h => Nat.le_trans (hw w h) (by decide))).mono ?_)
  rintro v' L2 ⟨b, rfl, hb, hL⟩
  rw [hL]
  clear hL
  rcases tf b with h1 | h1
  · rw [h1]
    refine yG ?_
    refine OS.call noGo rfl (fun _ => rfl) ((aw _).mono ?_)
    rintro v' L2 ⟨rfl, hL⟩
    refine yG ?_
    rfl
  have hr3 := hb h1
  rw [h1]
  by_cases h2 : 3000 < n.length
  · have q2 : (!ileB ((n.length : Nat) : Int) 3000) = true := by rw [ileB_eq]; simp; omega
    refine yG ?_
    refine OS.call noGo rfl (fun _ => rfl) ((aw _).mono ?_)
    rintro v' L2 ⟨rfl, hL⟩
    refine yG ?_
    rfl
  have q2 : (!ileB ((n.length : Nat) : Int) 3000) = false := by rw [ileB_eq]; simp; omega
  by_cases h3 : 3000 < s.length
  · have q3 : (!ileB ((s.length : Nat) : Int) 3000) = true := by rw [ileB_eq]; simp; omega
    refine yG ?_
    refine OS.call noGo rfl (fun _ => rfl) ((aw _).mono ?_)
    rintro v' L2 ⟨rfl, hL⟩
    refine yG ?_
    rfl
  have q3 : (!ileB ((s.length : Nat) : Int) 3000) = false := by rw [ileB_eq]; simp; omega
  have k1 : bytesEq (label n row) (label n row) = true := same_bytes _
  refine yG ?_
  refine OS.call noGo rfl (fun _ => rfl) ((Parse_ct s (by omega)).mono ?_)
  intro v' L2 hp
  cases hps : ps 58 [] s with
  | none =>
    rw [hps] at hp
    obtain ⟨rfl, Z, rfl⟩ := hp
    have hvZ : SV 1 (Z ++ L) v row.length (strs row) := hv.mono fun p hp => List.mem_append_right _ hp
    generalize Z ++ L = M at hvZ
    refine yG ?_
    refine OS.call noGo rfl (fun _ => rfl) ((refParse_ct s (by omega)).mono ?_)
    intro v' L2 hp
    rw [hps] at hp
    obtain ⟨rfl, Z2, rfl⟩ := hp
    have hvZ2 : SV 1 (Z2 ++ M) v row.length (strs row) := hvZ.mono fun p hp => List.mem_append_right _ hp
    generalize Z2 ++ M = M2 at hvZ2
    refine yG ?_
    refine OS.call noGo rfl (fun _ => rfl) ((Label_ct hvZ2 (by omega) hvl).mono ?_)
    rintro v' L2 ⟨rfl, hL⟩
    rw [hL]
    clear hL
    refine yG ?_
    refine OS.call noGo rfl (fun _ => rfl) ((refLabel_ct hvZ2 (by omega) hvl).mono ?_)
    rintro v' L2 ⟨rfl, hL⟩
    rw [hL]
    clear hL
    refine yG ?_
    refine OS.call noGo rfl (fun _ => rfl) ((Same02_ct (ws := []) (.inl ⟨rfl, rfl, rfl⟩) (.inl ⟨rfl, rfl, rfl⟩) (by simp)).mono ?_)
    rintro v' L2 ⟨rfl, hL⟩
    rw [hL]
    clear hL
    refine yG ?_
    refine OS.call noGo rfl (fun _ => rfl) ((aw _).mono ?_)
    rintro v' L2 ⟨rfl, hL⟩
    refine yG ?_
    rfl
  | some l =>
    obtain ⟨nm, vs, rfl, hlb⟩ := parsed_label hps
    have hvs : vs.length ≤ 3000 := by
      have := (label_len nm vs).2
      rw [hlb] at this; omega
    rw [hps] at hp
    obtain ⟨A, c, rfl, hg⟩ := hp
    have hsv := hg.sv
    have hvZ := hv.mono hg.mem
    clear hg
    refine yG ?_
    refine OS.call noGo rfl (fun _ => rfl) ((refParse_ct s (by omega)).mono ?_)
    intro v' L3 hp
    rw [hps] at hp
    obtain ⟨A2, c2, rfl, hg2⟩ := hp
    have hsv2 := hg2.sv
    have hsv1 := hsv.mono hg2.mem
    have hvZ2 := hvZ.mono hg2.mem
    clear hg2 hsv hvZ
    have k2 : bytesEq nm nm = true := same_bytes _
    refine yG ?_
    refine OS.call noGo rfl (fun _ => rfl) ((Label_ct hvZ2 (by omega) hvl).mono ?_)
    rintro v' L4 ⟨rfl, hL⟩
    rw [hL]
    clear hL
    refine yG ?_
    refine OS.call noGo rfl (fun _ => rfl) ((refLabel_ct hvZ2 (by omega) hvl).mono ?_)
    rintro v' L4 ⟨rfl, hL⟩
    rw [hL]
    clear hL
    refine yG ?_
    refine OS.call noGo rfl (fun _ => rfl) ((Same02_ct hsv1 hsv2 (by omega)).mono ?_)
    rintro v' L4 ⟨rfl, hL⟩
    rw [hL]
    clear hL
    refine yG ?_
    refine OS.call noGo rfl (fun _ => rfl) ((aw _).mono ?_)
    rintro v' L4 ⟨rfl, hL⟩
    refine yG ?_
    rfl
theorem backLaw_ct {L : RL} {v : Value} {n s : W} {row : List W} (hv : SV 1 L v row.length (strs row)) (hr : row.length ≤ 1048576) (hw : ∀ w, w ∈ row → w.length ≤ 1048576) (hn : n.length ≤ 1048576) (hs : s.length ≤ 1048576) :
    CS Try.prog 8 [str n, v, str s] L fun u _ => u = .bool true := by
  have aw : ∀ L : RL, CS Try.prog 14 [] L fun v L' => v = .bool true ∧ L' = L := fun L => awake_ct
  have hvl0 : row.length ≤ 3000 → vlen row ≤ 7000000000 := fun h => by
    have h1 := vlen_le hw
    have h2 : row.length * (1 + 2 * 1048576) ≤ 3000 * (1 + 2 * 1048576) := Nat.mul_le_mul_right _ h
    omega
  refine CS.mk (fn := Try.f8) rfl rfl rfl rfl ?_
  refine yG ?_
  refine OS.call noGo rfl (fun _ => rfl) ((long_ct hv (by omega) (fun w h => Nat.le_trans (hw w h) (by decide))).mono ?_)
  rintro v' L2 ⟨b, rfl, hb, hL⟩
  rw [hL]
  clear hL
  rcases tf b with h1 | h1
  · rw [h1]
    refine yG ?_
    refine OS.call noGo rfl (fun _ => rfl) ((aw _).mono ?_)
    rintro v' L2 ⟨rfl, hL⟩
    refine yG ?_
    rfl
  have hr3 := hb h1
  rw [h1]
  by_cases h2 : 3000 < n.length
  · have q2 : (!ileB ((n.length : Nat) : Int) 3000) = true := by rw [ileB_eq]; simp; omega
    refine yG ?_
    refine OS.call noGo rfl (fun _ => rfl) ((aw _).mono ?_)
    rintro v' L2 ⟨rfl, hL⟩
    refine yG ?_
    rfl
  have q2 : (!ileB ((n.length : Nat) : Int) 3000) = false := by rw [ileB_eq]; simp; omega
  by_cases h3 : 3000 < s.length
  · have q3 : (!ileB ((s.length : Nat) : Int) 3000) = true := by rw [ileB_eq]; simp; omega
    refine yG ?_
    refine OS.call noGo rfl (fun _ => rfl) ((aw _).mono ?_)
    rintro v' L2 ⟨rfl, hL⟩
    refine yG ?_
    rfl
  have q3 : (!ileB ((s.length : Nat) : Int) 3000) = false := by rw [ileB_eq]; simp; omega
  have hvl := hvl0 hr3
  have hlen : (label n row).length ≤ 8000000000000 := by
    have h4 := mk_len 58 n
    have h5 := vals_len 58 row
    unfold label
    rw [List.length_append]; omega
  refine yG ?_
  refine OS.call noGo rfl (fun _ => rfl) ((aw _).mono ?_)
  rintro v' L2 ⟨rfl, hL⟩
  rw [hL]
  clear hL
  refine yG ?_
  refine OS.call noGo rfl (fun _ => rfl) ((Label_ct hv (by omega) (by omega)).mono ?_)
  rintro v' L2 ⟨rfl, hL⟩
  rw [hL]
  clear hL
  refine yG ?_
  refine OS.call noGo rfl (fun _ => rfl) ((Parse_ct (label n row) hlen).mono ?_)
  intro v' L2 hp
  rw [back] at hp
  obtain ⟨A, c, rfl, hg⟩ := hp
  have hsv := hg.sv
  have hvZ := hv.mono hg.mem
  clear hg
  have k2 : (!bytesEq n n) = false := by rw [same_bytes]; rfl
  refine yG ?_
  refine OS.call noGo rfl (fun _ => rfl) ((Same02_ct hsv hvZ (by omega)).mono ?_)
  rintro v' L3 ⟨rfl, hL⟩
  rw [hL]
  clear hL
  refine yG ?_
  refine OS.call noGo rfl (fun _ => rfl) ((Parse_ct s (by omega)).mono ?_)
  intro v' L3 hp
  cases hps : ps 58 [] s with
  | none =>
    rw [hps] at hp
    obtain ⟨rfl, Z, rfl⟩ := hp
    refine yG ?_
    rfl
  | some l =>
    obtain ⟨nm, vs, rfl, hlb⟩ := parsed_label hps
    have hvs := label_len nm vs
    rw [hlb] at hvs
    rw [hps] at hp
    obtain ⟨A, c, rfl, hg⟩ := hp
    have k3 : bytesEq (label nm vs) s = true := by rw [hlb]; exact same_bytes _
    refine yG ?_
    refine OS.call noGo rfl (fun _ => rfl) ((Label_ct hg.sv (by omega) (by omega)).mono ?_)
    rintro v' L4 ⟨rfl, hL⟩
    rw [hL]
    clear hL
    refine yG ?_
    rfl
end Go.Proofs.Ytllcbjaajffaeaa

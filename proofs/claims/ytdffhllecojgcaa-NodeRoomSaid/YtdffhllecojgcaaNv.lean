/- Layer 6, pure: a node without one of its keys; small nodes have room. -/
import Derived.Test.YtdffhllecojgcaaNp
namespace Go.Proofs.Ytdffhllecojgcaa
open Go.Am
open Go.Proofs.Ytdffhllecojgcaa.T
set_option linter.unusedVariables false

theorem rise_erase : ∀ {l : List UInt8} {ks : List (List UInt8)} {i : Nat}, rise l ks = true → rise l (ks.eraseIdx i) = true
  | _, [], _, h => by simpa using h
  | _, k :: r, 0, h => by
    obtain ⟨h1, h2, h3⟩ := rise_cons.1 h
    exact rise_weak h1 h3
  | _, k :: r, i + 1, h => by
    obtain ⟨h1, h2, h3⟩ := rise_cons.1 h
    exact rise_cons.2 ⟨h1, h2, rise_erase h3⟩
theorem may_iff {n : Nd} : mayN n = true ↔ rise [] n.ks = true ∧ ((n.leaf = true ∧ n.vs.length = n.ks.length ∧ n.kids = [] ∧ ∀ v ∈ n.vs, v.length ≤ 64) ∨ (n.leaf = false ∧ n.kids.length = n.ks.length + 1 ∧ n.vs = [] ∧ ∀ z ∈ n.kids, 0 ≤ z ∧ z ≤ 32768)) := by
  constructor
  · intro h
    refine ⟨mayN_rise h, ?_⟩
    cases hl : n.leaf with
    | true => exact .inl ⟨rfl, may_vs h hl⟩
    | false => exact .inr ⟨rfl, may_kids h hl⟩
  · rintro ⟨h0, ⟨hl, h1, h2, h3⟩ | ⟨hl, h1, h2, h3⟩⟩
    · unfold mayN
      rw [h0, hl, if_pos rfl]
      simp [h1, h2]
      exact h3
    · unfold mayN
      rw [h0, hl, if_neg (by decide)]
      simp [h1, h2]
      exact h3
theorem without_may {n : Nd} {i : Nat} (h : mayN n = true) (hi : i < n.ks.length) : mayN (withoutN n i) = true := by
  obtain ⟨h0, h⟩ := may_iff.1 h
  refine may_iff.2 ⟨rise_erase h0, ?_⟩
  rcases h with ⟨hl, h1, h2, h3⟩ | ⟨hl, h1, h2, h3⟩
  · refine .inl ⟨hl, ?_, by simp [withoutN, h2], fun v hv => h3 v (List.mem_of_mem_eraseIdx hv)⟩
    show (n.vs.eraseIdx i).length = (n.ks.eraseIdx i).length
    rw [List.length_eraseIdx, List.length_eraseIdx, h1]
  · refine .inr ⟨hl, ?_, by simp [withoutN, h2], fun v hv => h3 v (List.mem_of_mem_eraseIdx hv)⟩
    show (n.kids.eraseIdx (i + 1)).length = (n.ks.eraseIdx i).length + 1
    rw [List.length_eraseIdx, List.length_eraseIdx, if_pos (by omega), if_pos hi]
    omega
theorem map_erase {α β : Type} {f : α → β} : ∀ {l : List α} {i : Nat}, (l.eraseIdx i).map f = (l.map f).eraseIdx i
  | [], _ => by simp
  | _ :: _, 0 => rfl
  | x :: l, i + 1 => by simp only [List.eraseIdx_cons_succ, List.map_cons, map_erase]
theorem tB_pos (s : List UInt8) : 0 < (tB s).length := by
  have := grp_pos s.length
  unfold tB
  rw [List.length_append]
  omega
theorem zip_erase : ∀ {ks bs : List (List UInt8)} {i : Nat}, i < ks.length → ks.length = bs.length → (zipB (ks.eraseIdx i) (bs.eraseIdx i)).length < (zipB ks bs).length
  | [], _, _, h, _ => by simp at h
  | _ :: _, [], _, _, h => by simp at h
  | k :: ks, b :: bs, 0, _, _ => by
    have := tB_pos k
    simp only [List.eraseIdx_cons_zero, zipB, List.length_append]
    omega
  | k :: ks, b :: bs, i + 1, h, hl => by
    have := zip_erase (ks := ks) (bs := bs) (i := i) (by simpa using h) (by simpa using hl)
    simp only [List.eraseIdx_cons_succ, zipB, List.length_append]
    omega
theorem grp_256 {a : Nat} (h : a + 1 ≤ 256) : (grp a).length ≤ (grp (a + 1)).length := by
  rcases Nat.lt_or_ge a 128 with h1 | h1
  · have := grp_pos (a + 1)
    rw [grp_lt h1]
    show 1 ≤ _
    omega
  · rw [grp_ge h1, grp_ge (show 128 ≤ a + 1 by omega), grp_lt (show a / 128 < 128 by omega), grp_lt (show (a + 1) / 128 < 128 by omega)]
    simp
theorem without_beh {n : Nd} {i : Nat} (h : mayN n = true) : behN (withoutN n i) = (behN n).eraseIdx i ∧ firstN (withoutN n i) = firstN n := by
  obtain ⟨h0, h⟩ := may_iff.1 h
  obtain ⟨lf, ks, vs, kids⟩ := n
  rcases h with ⟨hl, h1, h2, h3⟩ | ⟨hl, h1, h2, h3⟩
  · simp only at hl h1 h2
    subst hl
    exact ⟨map_erase, rfl⟩
  · simp only at hl h1 h2
    subst hl
    cases kids with
    | nil => simp at h1
    | cons z zs => exact ⟨map_erase, rfl⟩
theorem without_less {n : Nd} {i : Nat} (h : fitsN n = true) (hi : i < n.ks.length) : fitsN (withoutN n i) = true ∧ sizeN (withoutN n i) < sizeN n := by
  have hm : mayN n = true := by unfold fitsN at h; simp at h; exact h.1
  have hl : (bodyN n).length ≤ 256 := by unfold fitsN at h; simp at h; exact h.2
  have h256 := keys_256 h
  have hw := without_may hm hi
  obtain ⟨hb, hf⟩ := without_beh (i := i) hm
  have hlt : (bodyN (withoutN n i)).length < (bodyN n).length := by
    unfold bodyN
    rw [hb, hf]
    have h1 := zip_erase hi (beh_len hm).symm
    have h2 : (headN (withoutN n i)).length ≤ (headN n).length := by
      have he : (n.ks.eraseIdx i).length + 1 = n.ks.length := by rw [List.length_eraseIdx, if_pos hi]; omega
      have h3 := grp_256 (a := (n.ks.eraseIdx i).length) (by omega)
      rw [he] at h3
      unfold headN
      show ([_] ++ grp (n.ks.eraseIdx i).length).length ≤ _
      simp only [List.length_append, List.length_cons, List.length_nil]
      omega
    show ((headN (withoutN n i)) ++ (firstN n ++ zipB (n.ks.eraseIdx i) ((behN n).eraseIdx i))).length < _
    simp only [List.length_append]
    omega
  refine ⟨by unfold fitsN; rw [hw]; simp; omega, ?_⟩
  unfold sizeN
  rw [if_pos hw, if_pos hm]
  exact hlt
theorem zipB_len2 {A B : Nat} : ∀ {ks bs : List (List UInt8)}, (∀ k ∈ ks, (tB k).length ≤ A) → (∀ b ∈ bs, b.length ≤ B) → (zipB ks bs).length ≤ ks.length * (A + B)
  | [], _, _, _ => by simp [zipB]
  | k :: ks, [], _, _ => by simp [zipB]
  | k :: ks, b :: bs, h1, h2 => by
    have h3 := zipB_len2 (ks := ks) (bs := bs) (fun k hk => h1 k (List.mem_cons_of_mem _ hk)) (fun b hb => h2 b (List.mem_cons_of_mem _ hb))
    have h4 := h1 k (List.mem_cons_self ..)
    have h5 := h2 b (List.mem_cons_self ..)
    simp only [zipB, List.length_append, List.length_cons, Nat.add_mul, Nat.one_mul]
    omega
theorem room_fits {n : Nd} (h : mayN n = true) (hs : (n.leaf = true ∧ n.ks.length ≤ 2) ∨ (n.leaf = false ∧ n.ks.length ≤ 6)) : fitsN n = true := by
  have hks : ∀ k ∈ n.ks, (tB k).length ≤ 33 := fun k hk => by
    have := may_ks h k hk
    rw [tB_len (by omega)]
    omega
  have hg : (grp n.ks.length).length = 1 := by rw [grp_lt (by omega)]; rfl
  have hbody : (bodyN n).length ≤ 256 := by
    rcases hs with ⟨hl, h2⟩ | ⟨hl, h6⟩
    · obtain ⟨g1, g2, g3⟩ := may_vs h hl
      have hb : ∀ b ∈ behN n, b.length ≤ 65 := fun b hb => by
        unfold behN at hb
        rw [hl, if_pos rfl] at hb
        obtain ⟨v, hv, rfl⟩ := List.mem_map.1 hb
        have := g3 v hv
        rw [tB_len (by omega)]
        omega
      have hz := zipB_len2 hks hb
      have hf : (firstN n).length = 0 := by unfold firstN; rw [hl]; rfl
      have hz2 : (zipB n.ks (behN n)).length ≤ 2 * (33 + 65) := Nat.le_trans hz (Nat.mul_le_mul_right _ h2)
      unfold bodyN headN
      simp only [List.length_append, List.length_cons, List.length_nil]
      omega
    · obtain ⟨g1, g2, g3⟩ := may_kids h hl
      have hc : ∀ z : Int, 0 ≤ z ∧ z ≤ 32768 → (cnt z).length ≤ 3 := fun z hz => by
        obtain ⟨m, rfl⟩ := Int.eq_ofNat_of_zero_le hz.1
        rw [cnt_nat (by omega)]
        exact grp_len (k := 3) (by omega) (by omega)
      have hb : ∀ b ∈ behN n, b.length ≤ 3 := fun b hb => by
        unfold behN at hb
        rw [hl, if_neg (by decide)] at hb
        obtain ⟨v, hv, rfl⟩ := List.mem_map.1 hb
        exact hc v (g3 v (List.mem_of_mem_tail hv))
      have hz := zipB_len2 hks hb
      have hf : (firstN n).length ≤ 3 := by
        unfold firstN
        rw [hl, if_neg (by decide)]
        refine hc _ ?_
        cases hk : n.kids with
        | nil => rw [hk] at g1; simp at g1
        | cons z zs => exact g3 z (by rw [hk]; exact List.mem_cons_self ..)
      have hz2 : (zipB n.ks (behN n)).length ≤ 6 * (33 + 3) := Nat.le_trans hz (Nat.mul_le_mul_right _ h6)
      unfold bodyN headN
      simp only [List.length_append, List.length_cons, List.length_nil]
      omega
  unfold fitsN
  rw [h, decide_eq_true hbody]
  rfl
end Go.Proofs.Ytdffhllecojgcaa

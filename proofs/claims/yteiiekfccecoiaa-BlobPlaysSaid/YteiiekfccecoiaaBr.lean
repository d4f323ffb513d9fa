/- Layer 8, pure: values on the blocks of a map, apart from one another. -/
import Derived.Test.YteiiekfccecoiaaBq
namespace Go.Proofs.Yteiiekfccecoiaa
open Go.Am
set_option linter.unusedVariables false
set_option maxRecDepth 20000

/-- A number, taken for one without a sign. -/
def uns (z : Int) : Nat := (z % 18446744073709551616).toNat
theorem uns_eq (z : Int) : wrapB .u64 z = (uns z : Nat) := by
  rw [wrapB_eq, Am.wrap_u64]; unfold uns; omega
theorem uns_lt (z : Int) : uns z < 18446744073709551616 := by unfold uns; omega
theorem e_uns {P : Program} {a : Slots} {o : Oper} {src dst : TypeId} {x : Operand} {n : Int} (ho : o.op = .convert src dst x) (hx : aev a x = some (.int .i64 n)) (hs : P.underlying src = some (.int .i64)) (hd : P.underlying dst = some (.int .u64)) : ∀ h, opB P a o h = some (.val (.int .u64 (uns n : Nat)) h) := by
  intro h
  simp only [opB, ho, hx, convB, hs, hd, uns_eq, ret2]
theorem uns_nat {n : Nat} (h : n < 18446744073709551616) : uns (n : Int) = n := by unfold uns; omega
theorem str_same (bs : List UInt8) : bytesEq bs bs = true := by rw [bytesEq_eq]; simp

theorem Rises.nodup {l : List Nat} (h : Rises l) : l.Nodup := by
  rw [List.nodup_iff_pairwise_ne, List.pairwise_iff_getElem]
  intro i j hi hj hij he
  have := h.lt hij (List.getElem?_eq_getElem hi) (List.getElem?_eq_getElem hj)
  omega
namespace Z
theorem giveL_frees : ∀ {l : List Nat} {T : List Bool}, (∀ x ∈ l, x < T.length ∧ tkn T x = true) → l.Nodup → frees (giveL T l) = frees T + l.length
  | [], T, _, _ => rfl
  | x :: l, T, h, hn => by
    have hx := h x (List.mem_cons_self ..)
    rw [List.nodup_cons] at hn
    show frees (giveL (dropS T (x : Nat)) l) = _
    have e : dropS T (x : Nat) = T.set x false := by
      unfold dropS dropE
      rw [if_pos (show 0 ≤ (x : Int) ∧ (x : Int) < T.length by omega), Int.toNat_natCast, if_pos hx.2, if_pos rfl]
    rw [giveL_frees (fun y hy => ?_) hn.2, e, frees_drop hx.1 hx.2, List.length_cons]
    · omega
    · have hy2 := h y (List.mem_cons_of_mem _ hy)
      refine ⟨by rw [dropS_len]; exact hy2.1, ?_⟩
      rw [dropS_tkn T x y hx.1, hy2.2]
      have : y ≠ x := fun he => hn.1 (he ▸ hy)
      simp [this]
theorem claimS_tkn (T : List Bool) (i j : Nat) (h : i < T.length) : tkn (claimS T (i : Nat)) j = (tkn T j || decide (j = i)) := by
  unfold claimS claimE
  rw [if_pos (show 0 ≤ (i : Int) ∧ (i : Int) < T.length by omega), Int.toNat_natCast]
  by_cases ht : tkn T i = true
  · rw [if_pos ht, if_neg (by omega)]
    by_cases hj : j = i
    · subst hj; simp [ht]
    · simp [hj]
  · rw [if_neg ht, if_pos rfl, tkn_set h]
    by_cases hj : j = i
    · simp [hj]
    · simp [hj]
end Z
theorem claimL_tkn : ∀ {l : List Nat} {T : List Bool}, (∀ x ∈ l, x < T.length) → ∀ j, Z.tkn (claimL T l) j = (Z.tkn T j || decide (j ∈ l))
  | [], T, _, j => by simp [claimL]
  | x :: l, T, h, j => by
    show Z.tkn (claimL (Z.claimS T (x : Nat)) l) j = _
    rw [claimL_tkn (fun y hy => by rw [Z.claimS_len]; exact h y (List.mem_cons_of_mem _ hy)), Z.claimS_tkn T x j (h x (List.mem_cons_self ..))]
    by_cases h1 : j = x <;> by_cases h2 : j ∈ l <;> simp [h1, h2]
theorem claimL_frees : ∀ {l : List Nat} {T : List Bool}, (∀ x ∈ l, x < T.length ∧ Z.tkn T x = false) → l.Nodup → Z.frees (claimL T l) + l.length = Z.frees T
  | [], T, _, _ => rfl
  | x :: l, T, h, hn => by
    have hx := h x (List.mem_cons_self ..)
    rw [List.nodup_cons] at hn
    show Z.frees (claimL (Z.claimS T (x : Nat)) l) + _ = _
    have e : Z.claimS T (x : Nat) = T.set x true := by
      have hx2 : ¬ Z.tkn T x = true := by rw [hx.2]; simp
      unfold Z.claimS Z.claimE
      rw [if_pos (show 0 ≤ (x : Int) ∧ (x : Int) < T.length by omega), Int.toNat_natCast, if_neg hx2, if_pos rfl]
    have h1 := claimL_frees (T := Z.claimS T (x : Nat)) (fun y hy => by
      have hy2 := h y (List.mem_cons_of_mem _ hy)
      refine ⟨by rw [Z.claimS_len]; exact hy2.1, ?_⟩
      rw [Z.claimS_tkn T x y hx.1, hy2.2]
      have : y ≠ x := fun he => hn.1 (he ▸ hy)
      simp [this]) hn.2
    have h2 := Z.frees_set hx.1 hx.2
    rw [e] at h1 ⊢
    rw [List.length_cons]
    omega

/-- Values on the blocks of a map, apart from one another; with the free ones they are all. -/
structure Hd (D : List UInt8) (base : Nat) (T : List Bool) (V : List (List Nat × List UInt8)) : Prop where
  val : ∀ v ∈ V, Val D base T.length v.1 v.2
  nd : (V.flatMap (·.1)).Nodup
  tk : ∀ x ∈ V.flatMap (·.1), Z.tkn T x = true
  cnt : (V.flatMap (·.1)).length + Z.frees T = T.length
theorem Hd.init (D : List UInt8) (base n : Nat) : Hd D base (List.replicate n false) [] :=
  ⟨fun v hv => (by cases hv), List.nodup_nil, fun x hx => (by cases hx), by rw [Z.frees_zeros]; simp⟩
theorem Hd.lt {D : List UInt8} {base : Nat} {T : List Bool} {V : List (List Nat × List UInt8)} (h : Hd D base T V) {x : Nat} (hx : x ∈ V.flatMap (·.1)) : x < T.length := by
  obtain ⟨v, hv, hx⟩ := List.mem_flatMap.1 hx
  exact (h.val v hv).lt x hx
theorem Hd.put {D : List UInt8} {base n m : Nat} {T : List Bool} {V : List (List Nat × List UInt8)} {data : List UInt8} (h : Hd D base T V) (hD : D.length = n * 256) (hn : base + T.length ≤ n) (hm : need data.length = m) (hf : m ≤ Z.frees T) (hdl : data.length ≤ 1000000) :
    Hd (wrs D (putW base (Z.tkL T m) data)) base (Z.tkT T m) (V ++ [(Z.tkL T m, data)]) := by
  subst hm
  have hfree := fun x (hx : x ∈ Z.tkL T (need data.length)) => Z.tkL_free hf hx
  have hlt : ∀ x ∈ Z.tkL T (need data.length), base + x < n := fun x hx => by have := (hfree x hx).1; omega
  have e : (V ++ [(Z.tkL T (need data.length), data)]).flatMap (·.1) = V.flatMap (·.1) ++ Z.tkL T (need data.length) := by simp
  refine ⟨fun v hv => ?_, ?_, ?_, ?_⟩
  · rw [Z.tkT_len]
    rcases List.mem_append.1 hv with hv | hv
    · refine (h.val v hv).stay hD hlt fun x hx hx2 => ?_
      have h1 := h.tk x (List.mem_flatMap.2 ⟨v, hv, hx⟩)
      rw [(hfree x hx2).2] at h1; cases h1
    · rw [List.mem_singleton.1 hv]
      exact Val.made hD rfl hn hf hdl
  · rw [e, List.nodup_append]
    refine ⟨h.nd, (tkL_rises hf).nodup, fun x hx y hy he => ?_⟩
    subst he
    have h1 := h.tk x hx
    rw [(hfree x hy).2] at h1; cases h1
  · rw [e]
    intro x hx
    rw [Z.tkT_tkn hf]
    rcases List.mem_append.1 hx with hx | hx
    · rw [h.tk x hx]; rfl
    · simp [hx]
  · rw [e, List.length_append, Z.tkT_len, Z.tkL_len]
    have h1 := Z.tkT_frees hf
    have h2 := h.cnt
    omega
theorem Hd.cutPut {D : List UInt8} {base n m c : Nat} {T : List Bool} {V : List (List Nat × List UInt8)} {data : List UInt8} (h : Hd D base T V) (hD : D.length = n * 256) (hn : base + T.length ≤ n) (hf : m ≤ Z.frees T) :
    Hd (wrs D ((putW base (Z.tkL T m) data).take c)) base T V := by
  have hfree := fun x (hx : x ∈ Z.tkL T m) => Z.tkL_free hf hx
  have hlt : ∀ x ∈ Z.tkL T m, base + x < n := fun x hx => by have := (hfree x hx).1; omega
  refine ⟨fun v hv => ?_, h.nd, h.tk, h.cnt⟩
  refine (h.val v hv).stays hD hlt fun x hx hx2 => ?_
  have h1 := h.tk x (List.mem_flatMap.2 ⟨v, hv, hx⟩)
  rw [(hfree x hx2).2] at h1; cases h1
theorem Hd.drop {D : List UInt8} {base : Nat} {T : List Bool} {A B : List (List Nat × List UInt8)} {v : List Nat × List UInt8} (h : Hd D base T (A ++ v :: B)) : Hd D base (Z.giveL T v.1) (A ++ B) := by
  have hnd := h.nd
  have htk := h.tk
  have hcnt := h.cnt
  have hsub : ∀ x ∈ (A ++ B).flatMap (·.1), x ∈ (A ++ v :: B).flatMap (·.1) := fun x hx => by
    simp only [List.flatMap_append, List.flatMap_cons, List.mem_append] at hx ⊢
    rcases hx with hx | hx
    · exact .inl hx
    · exact .inr (.inr hx)
  have hvm : ∀ x ∈ v.1, x ∈ (A ++ v :: B).flatMap (·.1) := fun x hx => by
    simp only [List.flatMap_append, List.flatMap_cons, List.mem_append]; exact .inr (.inl hx)
  have hvl : ∀ x ∈ v.1, x < T.length := fun x hx => h.lt (hvm x hx)
  simp only [List.flatMap_append, List.flatMap_cons] at hnd hcnt
  rw [List.nodup_append, List.nodup_append] at hnd
  obtain ⟨n1, ⟨n2, n3, n4⟩, n5⟩ := hnd
  refine ⟨fun w hw => ?_, ?_, fun x hx => ?_, ?_⟩
  · rw [Z.giveL_len]
    refine h.val w ?_
    rcases List.mem_append.1 hw with hw | hw
    · exact List.mem_append_left _ hw
    · exact List.mem_append_right _ (List.mem_cons_of_mem _ hw)
  · simp only [List.flatMap_append]
    rw [List.nodup_append]
    exact ⟨n1, n3, fun x hx y hy => n5 x hx y (List.mem_append_right _ hy)⟩
  · rw [Z.giveL_tkn hvl, htk x (hsub x hx)]
    have : x ∉ v.1 := fun hv => by
      simp only [List.flatMap_append, List.mem_append] at hx
      rcases hx with hx | hx
      · exact n5 x hx x (List.mem_append_left _ hv) rfl
      · exact n4 x hv x hx rfl
    simp [this]
  · rw [Z.giveL_frees (fun x hx => ⟨hvl x hx, htk x (hvm x hx)⟩) n2, Z.giveL_len]
    simp only [List.flatMap_append, List.length_append] at hcnt ⊢
    omega
end Go.Proofs.Yteiiekfccecoiaa

/- Layer 8: a desk with values, alive or cut; what BlobStays comes to. -/
import Derived.Test.YteiiekfccecoiaaBr
namespace Go.Proofs.Yteiiekfccecoiaa
open Go.Am
set_option linter.unusedVariables false
set_option maxRecDepth 20000

/-- A desk with values, as the statements have one. -/
structure W8 (c : Whr) (s : Dk) (T : List Bool) (V : List (List Nat × List UInt8)) (w : Nat) : Prop where
  ok : Bok c s T
  b : c.base = 150
  n : s.n = 512
  z : blk s.D 1 = zeros
  h : Hd s.D 150 T V
  w : s.wr ≤ w
  t : T.length ≤ 300
/-- The disk behind a Put, whole or cut. -/
abbrev dkW (s : Dk) (T : List Bool) (n : Nat) (data : List UInt8) : Dk := ⟨s.n, wrs s.D (putW 150 (Z.tkL T n) data), s.wr + n, s.cut, if s.cut then s.left - n else s.left, false⟩
abbrev dkC (s : Dk) (T : List Bool) (n : Nat) (data : List UInt8) : Dk := ⟨s.n, wrs s.D ((putW 150 (Z.tkL T n) data).take s.left), s.wr + s.left, true, 0, true⟩
theorem W8.lt {c : Whr} {s : Dk} {T : List Bool} {V : List (List Nat × List UInt8)} {w n : Nat} (h : W8 c s T V w) (hf : n ≤ Z.frees T) : ∀ x ∈ Z.tkL T n, 150 + x < 512 := fun x hx => by
  have h1 := (Z.tkL_free hf hx).1
  have h2 := h.t
  omega
theorem W8.len {c : Whr} {s : Dk} {T : List Bool} {V : List (List Nat × List UInt8)} {w : Nat} (h : W8 c s T V w) : s.D.length = 512 * 256 := by
  rw [h.ok.ok.1, h.n]
theorem W8.put {c : Whr} {s : Dk} {T : List Bool} {V : List (List Nat × List UInt8)} {w n : Nat} {data : List UInt8} (h : W8 c s T V w) (hw : w ≤ 800000) (hn : need data.length = n) (hf : n ≤ Z.frees T) (hdl : data.length ≤ 1000000) :
    W8 c (dkW s T n data) (Z.tkT T n) (V ++ [(Z.tkL T n, data)]) (w + 400) := by
  have hlt := h.lt hf
  have hfl := Z.frees_le T
  have ht := h.t
  have hsw := h.w
  obtain ⟨h1, h2, h3, h4, h5⟩ := h.ok.ok
  have hlen : (wrs s.D (putW 150 (Z.tkL T n) data)).length = 512 * 256 := wrs_len h.len (putW_fit hlt)
  refine ⟨⟨⟨by rw [hlen, h.n], h2, h3, by show s.wr + n ≤ 1000000; omega, ?_⟩, by rw [Z.tkT_len]; exact h.ok.len, h.ok.lo, by rw [Z.tkT_len]; exact h.ok.hi⟩, h.b, h.n, ?_, ?_, by show s.wr + n ≤ w + 400; omega, by rw [Z.tkT_len]; exact ht⟩
  · show (if s.cut then s.left - n else s.left) ≤ _
    split <;> omega
  · have := wrs_old (c := (Z.tkL T n).length) (data := data) h.len hlt (j := 1) (fun x hx => by omega)
    rw [putW_all] at this
    rw [this]; exact h.z
  · exact h.h.put h.len (by omega) hn hf hdl
theorem W8.cutPut {c : Whr} {s : Dk} {T : List Bool} {V : List (List Nat × List UInt8)} {w n : Nat} {data : List UInt8} (h : W8 c s T V w) (hw : w ≤ 800000) (hf : n ≤ Z.frees T) (hl : s.left < n) :
    W8 c (dkC s T n data) T V (w + 400) := by
  have hlt := h.lt hf
  have hfl := Z.frees_le T
  have ht := h.t
  have hsw := h.w
  obtain ⟨h1, h2, h3, h4, h5⟩ := h.ok.ok
  have hfit := putW_fit (data := data) hlt
  have hlen : (wrs s.D ((putW 150 (Z.tkL T n) data).take s.left)).length = 512 * 256 := wrs_len h.len (fun w hw => hfit w (List.mem_of_mem_take hw))
  refine ⟨⟨⟨by rw [hlen, h.n], h2, h3, by show s.wr + s.left ≤ 1000000; omega, Nat.zero_le _⟩, h.ok.len, h.ok.lo, h.ok.hi⟩, h.b, h.n, ?_, h.h.cutPut h.len (by omega) hf, by show s.wr + s.left ≤ w + 400; omega, ht⟩
  show blk (wrs s.D ((putW 150 (Z.tkL T n) data).take s.left)) 1 = zeros
  rw [wrs_old h.len hlt (fun x hx => by omega)]
  exact h.z
theorem W8.drop {c : Whr} {s : Dk} {T : List Bool} {A B : List (List Nat × List UInt8)} {v : List Nat × List UInt8} {w : Nat} (h : W8 c s T (A ++ v :: B) w) : W8 c s (Z.giveL T v.1) (A ++ B) w :=
  ⟨⟨h.ok.ok, by rw [Z.giveL_len]; exact h.ok.len, h.ok.lo, by rw [Z.giveL_len]; exact h.ok.hi⟩, h.b, h.n, h.z, h.h.drop, h.w, by rw [Z.giveL_len]; exact h.t⟩
theorem W8.mono {c : Whr} {s : Dk} {T : List Bool} {V : List (List Nat × List UInt8)} {w w' : Nat} (h : W8 c s T V w) (hw : w ≤ w') : W8 c s T V w' := ⟨h.ok, h.b, h.n, h.z, h.h, Nat.le_trans h.w hw, h.t⟩
/-- Another cut. -/
theorem W8.cutAt {c : Whr} {s : Dk} {T : List Bool} {V : List (List Nat × List UInt8)} {w : Nat} (h : W8 c s T V w) {b d : Bool} {m : Nat} (hm : m ≤ 9223372036854775807) : W8 c ⟨s.n, s.D, s.wr, b, m, d⟩ T V w := by
  obtain ⟨h1, h2, h3, h4, h5⟩ := h.ok.ok
  exact ⟨⟨⟨h1, h2, h3, h4, hm⟩, h.ok.len, h.ok.lo, h.ok.hi⟩, h.b, h.n, h.z, h.h, h.w, h.t⟩
theorem W8.val {c : Whr} {s : Dk} {T : List Bool} {V : List (List Nat × List UInt8)} {w : Nat} (h : W8 c s T V w) {v : List Nat × List UInt8} (hv : v ∈ V) : Val s.D c.base T.length v.1 v.2 := by
  rw [h.b]; exact h.h.val v hv
theorem W8.tk {c : Whr} {s : Dk} {T : List Bool} {V : List (List Nat × List UInt8)} {w : Nat} (h : W8 c s T V w) {v : List Nat × List UInt8} (hv : v ∈ V) {x : Nat} (hx : x ∈ v.1) : Z.tkn T x = true :=
  h.h.tk x (List.mem_flatMap.2 ⟨v, hv, hx⟩)
theorem tkL_head {T : List Bool} {n : Nat} (h : 0 < n) : (Z.tkL T n)[0]? = some (Z.ff T) := by rw [Z.tkL_at h]; rfl

/-- A Put, whatever comes of it. -/
theorem Put_any {c : Whr} {s : Dk} {T : List Bool} {F : RL} {V : List (List Nat × List UInt8)} {w n : Nat} {data : List UInt8} (h : W8 c s T V w) (hw : w ≤ 800000) (hd : s.dead = false) (hdl : data.length ≤ 1000000) (hn : need data.length = n) :
    CS Try.prog 15 [ptr c.rD, txt data] (bl c s T F) fun v L' => ∃ Y,
      (Z.frees T < n ∧ v = .tuple #[.int .i64 0, .int .i64 3] ∧ L' = bl c s T (Y ++ F)) ∨
      (n ≤ Z.frees T ∧ (s.cut = true → n ≤ s.left) ∧ v = .tuple #[.int .i64 (Z.ff T : Nat), .int .i64 0] ∧ L' = bl c (dkW s T n data) (Z.tkT T n) (Y ++ F)) ∨
      (n ≤ Z.frees T ∧ s.cut = true ∧ s.left < n ∧ v = .tuple #[.int .i64 0, .int .i64 20] ∧ L' = bl c (dkC s T n data) T (Y ++ F)) := by
  have hsw := h.w
  subst hn
  rcases Nat.lt_or_ge (Z.frees T) (need data.length) with hf | hf
  · refine (Put_full h.ok.len hd hdl hf).mono ?_
    rintro v L' ⟨rfl, Y, rfl⟩
    exact ⟨Y, .inl ⟨hf, rfl, rfl⟩⟩
  · have hlt := h.lt hf
    have hll := Z.tkL_len T (need data.length)
    refine (Put_ct h.ok (by omega) hd hdl hf rfl).mono ?_
    rintro v L' ⟨rfl, Y, rfl⟩
    refine ⟨Y, .inr ?_⟩
    rw [h.b]
    by_cases hc : s.cut = true ∧ s.left < need data.length
    · have hrun := run_cut (s := s) (base := 150) (data := data) hd (by rw [h.n]; exact hlt) hc.1 (by rw [hll]; exact hc.2)
      rw [hrun]
      exact .inr ⟨hf, hc.1, hc.2, rfl, rfl⟩
    · have hc2 : s.cut = true → need data.length ≤ s.left := fun h1 => by
        rcases Nat.lt_or_ge s.left (need data.length) with h2 | h2
        · exact absurd ⟨h1, h2⟩ hc
        · exact h2
      have hrun := run_whole (s := s) (base := 150) (data := data) hd (by rw [h.n]; exact hlt) (by rw [hll]; exact hc2)
      rw [hll] at hrun
      rw [hrun]
      exact .inl ⟨hf, hc2, rfl, rfl⟩
theorem W8.fresh {c : Whr} {n : Nat} (hb : c.base = 150) (hn : n ≤ 300) : W8 c dk0 (List.replicate n false) [] 0 :=
  ⟨⟨dk0_ok, by simp; omega, by omega, by rw [hb]; simp; omega⟩, hb, rfl, blk_zeros (by omega), Hd.init .., Nat.le_refl _, by simp; omega⟩
end Go.Proofs.Yteiiekfccecoiaa

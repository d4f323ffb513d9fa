/- Layer 8, pure: what stands behind the writes of a Put. -/
import Derived.Test.YteiiekfccecoiaaBm
namespace Go.Proofs.Yteiiekfccecoiaa
open Go.Am
set_option linter.unusedVariables false
set_option maxRecDepth 20000

/-- Numbers that rise. -/
def Rises (l : List Nat) : Prop := ∀ k x y, l[k]? = some x → l[k + 1]? = some y → x < y
theorem Rises.lt {l : List Nat} (h : Rises l) {i : Nat} : ∀ {j x y : Nat}, i < j → l[i]? = some x → l[j]? = some y → x < y
  | 0, _, _, hij, _, _ => by omega
  | j + 1, x, y, hij, hx, hy => by
    rcases Nat.lt_or_ge i j with h1 | h1
    · have hj : j < l.length := by have := (List.getElem?_eq_some_iff.1 hy).1; omega
      exact Nat.lt_trans (h.lt h1 hx (List.getElem?_eq_getElem hj)) (h j _ y (List.getElem?_eq_getElem hj) hy)
    · have : i = j := by omega
      subst this
      exact h i x y hx hy
theorem tkL_rises {T : List Bool} {n : Nat} (h : n ≤ Z.frees T) : Rises (Z.tkL T n) := fun k x y hx hy => by
  have hk : k + 1 < n := by have := (List.getElem?_eq_some_iff.1 hy).1; rwa [Z.tkL_len] at this
  rw [Z.tkL_at (by omega)] at hx
  rw [Z.tkL_at hk] at hy
  cases hx; cases hy
  exact Z.tkL_step (by omega)
theorem putW_mem {base : Nat} {l : List Nat} {data : List UInt8} {w : Int × List UInt8} (h : w ∈ putW base l data) : ∃ k x, l[k]? = some x ∧ w = (((base + x : Nat) : Int), img l data k) := by
  unfold putW at h
  obtain ⟨k, hk, rfl⟩ := List.mem_map.1 h
  rw [List.mem_range] at hk
  refine ⟨k, l[k], List.getElem?_eq_getElem hk, ?_⟩
  rw [List.getElem?_eq_getElem hk]; rfl
theorem putW_fit {n base : Nat} {l : List Nat} {data : List UInt8} (h : ∀ x ∈ l, base + x < n) : Fit n (putW base l data) := fun w hw => by
  obtain ⟨k, x, hx, rfl⟩ := putW_mem hw
  have := h x (List.mem_of_getElem? hx)
  exact ⟨by simp only; omega, by simp only; omega, imgB_len ..⟩
theorem wrs_new {n base : Nat} {D : List UInt8} {l : List Nat} {data : List UInt8} (hD : D.length = n * 256) (h : ∀ x ∈ l, base + x < n) (hr : Rises l) {k x : Nat} (hx : l[k]? = some x) : blk (wrs D (putW base l data)) (base + x) = img l data k := by
  have hk : k < (putW base l data).length := by rw [putW_len]; exact (List.getElem?_eq_some_iff.1 hx).1
  have hat := putW_at (base := base) (data := data) hx
  rw [List.getElem?_eq_getElem hk] at hat
  have e : putW base l data = (putW base l data).take k ++ (((base + x : Nat) : Int), img l data k) :: (putW base l data).drop (k + 1) := by
    rw [← Option.some.inj hat, ← List.drop_eq_getElem_cons hk, List.take_append_drop]
  have hf := putW_fit (data := data) h
  rw [e] at hf ⊢
  refine blk_wrs_at hD hf fun w hw => ?_
  obtain ⟨i, hi⟩ := List.mem_iff_getElem?.1 hw
  rw [List.getElem?_drop] at hi
  have hi2 : k + 1 + i < l.length := by have := (List.getElem?_eq_some_iff.1 hi).1; rwa [putW_len] at this
  rw [putW_at (List.getElem?_eq_getElem hi2)] at hi
  cases hi
  have := hr.lt (show k < k + 1 + i by omega) hx (List.getElem?_eq_getElem hi2)
  simp only
  omega
theorem wrs_old {n base c : Nat} {D : List UInt8} {l : List Nat} {data : List UInt8} (hD : D.length = n * 256) (h : ∀ x ∈ l, base + x < n) {j : Nat} (hj : ∀ x ∈ l, j ≠ base + x) : blk (wrs D ((putW base l data).take c)) j = blk D j := by
  refine blk_wrs_ne (n := n) hD (fun w hw => putW_fit h w (List.mem_of_mem_take hw)) fun w hw => ?_
  obtain ⟨k, x, hx, rfl⟩ := putW_mem (List.mem_of_mem_take hw)
  have := hj x (List.mem_of_getElem? hx)
  simp only; omega
theorem Val.rises {D : List UInt8} {base m : Nat} {l : List Nat} {data : List UInt8} (h : Val D base m l data) : Rises l := h.rise
/-- What was put stands. -/
theorem Val.made {n base m : Nat} {D : List UInt8} {T : List Bool} {data : List UInt8} (hD : D.length = n * 256) (hm : m = T.length) (hn : base + T.length ≤ n) (hf : need data.length ≤ Z.frees T) (hdl : data.length ≤ 1000000) :
    Val (wrs D (putW base (Z.tkL T (need data.length)) data)) base m (Z.tkL T (need data.length)) data := by
  have hlt : ∀ x ∈ Z.tkL T (need data.length), x < T.length := fun x hx => (Z.tkL_free hf hx).1
  refine ⟨Z.tkL_len _ _, hdl, fun x hx => by rw [hm]; exact hlt x hx, tkL_rises hf, fun k x hx => ?_⟩
  exact wrs_new hD (fun y hy => by have := hlt y hy; omega) (tkL_rises hf) hx
/-- What stood on other blocks stands, whatever of it was written. -/
theorem Val.stays {n base m c : Nat} {D : List UInt8} {l l' : List Nat} {data data' : List UInt8} (hV : Val D base m l' data') (hD : D.length = n * 256) (h : ∀ x ∈ l, base + x < n) (hd : ∀ x ∈ l', x ∉ l) :
    Val (wrs D ((putW base l data).take c)) base m l' data' := by
  refine ⟨hV.len, hV.dl, hV.lt, hV.rise, fun k x hx => ?_⟩
  rw [wrs_old hD h (fun y hy he => ?_), hV.on k x hx]
  have : x = y := by omega
  subst this
  exact hd x (List.mem_of_getElem? hx) hy
theorem putW_all (base : Nat) (l : List Nat) (data : List UInt8) : (putW base l data).take l.length = putW base l data := List.take_of_length_le (by rw [putW_len]; exact Nat.le_refl _)
theorem Val.stay {n base m : Nat} {D : List UInt8} {l l' : List Nat} {data data' : List UInt8} (hV : Val D base m l' data') (hD : D.length = n * 256) (h : ∀ x ∈ l, base + x < n) (hd : ∀ x ∈ l', x ∉ l) :
    Val (wrs D (putW base l data)) base m l' data' := by
  rw [← putW_all]; exact hV.stays hD h hd
/-- A Put that is not cut. -/
theorem run_whole {s : Dk} {base : Nat} {l : List Nat} {data : List UInt8} (hd : s.dead = false) (h : ∀ x ∈ l, base + x < s.n) (hc : s.cut = true → l.length ≤ s.left) :
    runW s (putW base l data) = (0, ⟨s.n, wrs s.D (putW base l data), s.wr + l.length, s.cut, if s.cut then s.left - l.length else s.left, false⟩) := by
  rw [runW_all hd (putW_fit h) (by rw [putW_len]; exact hc), putW_len]
/-- A Put that is cut. -/
theorem run_cut {s : Dk} {base : Nat} {l : List Nat} {data : List UInt8} (hd : s.dead = false) (h : ∀ x ∈ l, base + x < s.n) (hc : s.cut = true) (hl : s.left < l.length) :
    runW s (putW base l data) = (20, ⟨s.n, wrs s.D ((putW base l data).take s.left), s.wr + s.left, true, 0, true⟩) :=
  runW_cut hd (putW_fit h) hc (by rw [putW_len]; exact hl)
end Go.Proofs.Yteiiekfccecoiaa

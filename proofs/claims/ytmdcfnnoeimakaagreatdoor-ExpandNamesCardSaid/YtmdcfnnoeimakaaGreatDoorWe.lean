/- Layer 2: what marks tell, one behind the other. -/
import Derived.Test.YtmdcfnnoeimakaaGreatDoorWd
namespace Go.Proofs.YtmdcfnnoeimakaaGreatDoor
open Go.Am
set_option linter.unusedVariables false
set_option maxRecDepth 20000

theorem is_u8 {c : UInt8} {k : Int} (k' : UInt8) (h : ieqB (c.toNat : Nat) k = true) (hk : k = (k'.toNat : Nat)) : c = k' := by
  have := eq_of h
  rw [hk] at this
  exact UInt8.toNat_inj.1 (by omega)
theorem not_u8 {c : UInt8} {k : Int} (k' : UInt8) (h : ieqB (c.toNat : Nat) k = false) (hk : k = (k'.toNat : Nat)) : c ≠ k' := fun e => neq_of h (by rw [hk, e])
theorem escapeAt_ct {L : RL} {rm : Nat} (hm : (rm, .map (digE 16) 16) ∈ L) (s : List UInt8) (hs : s.length ≤ 9000000000000000) : CS Tryz.prog 143 [str s, .map (some rm)] L fun v L' => v = two (escK s) ∧ L' = L := by
  by_cases hl : s.length < 2
  · have hk : escK s = (0, 0) := by
      match s, hl with
      | [], _ => rfl
      | [_], _ => rfl
    have b1 : (!ileB 2 (s.length : Int)) = true := by rw [ileB_eq]; simp; omega
    refine CS.mk (fn := Tryz.f143) rfl rfl rfl rfl ?_
    repeat refine LS.seq ?_
    refine LS.region rfl ?_
    refine OS.pure rfl (fun _ => rfl) rfl ?_
    refine OS.pure rfl (fun _ => rfl) rfl ?_
    refine OS.nil ?_
    repeat refine LS.seq ?_
    refine LS.region rfl ?_
    refine OS.pure rfl (fun _ => rfl) rfl ?_
    refine OS.pure rfl (fun _ => rfl) rfl ?_
    refine OS.pure rfl (e_is (fun _ => rfl) (congrArg Value.bool b1)) rfl ?_
    refine OS.nil ?_
    repeat refine LS.seq ?_
    refine LS.cond rfl (fun hc => ?_) (fun hc => ?_)
    · repeat refine LS.seq ?_
      refine LS.region rfl ?_
      refine OS.pure rfl (fun _ => rfl) rfl ?_
      refine OS.pure rfl (fun _ => rfl) rfl ?_
      refine OS.nil ?_
      refine LS.ret ⟨_, fun _ _ => rfl, ?_⟩
      exact ⟨by rw [hk]; rfl, rfl⟩
    · cases hc
  · obtain ⟨c0, c, t, rfl⟩ : ∃ c0 c t, s = c0 :: c :: t := by
      match s, hl with
      | [], h => simp at h
      | [_], h => simp at h
      | c0 :: c1 :: t, _ => exact ⟨c0, c1, t, rfl⟩
    have b1 : (!ileB 2 ((c0 :: c :: t).length : Int)) = false := by rw [ileB_eq]; simp; omega
    refine CS.mk (fn := Tryz.f143) rfl rfl rfl rfl ?_
    repeat refine LS.seq ?_
    refine LS.region rfl ?_
    refine OS.pure rfl (fun _ => rfl) rfl ?_
    refine OS.pure rfl (fun _ => rfl) rfl ?_
    refine OS.nil ?_
    repeat refine LS.seq ?_
    refine LS.region rfl ?_
    refine OS.pure rfl (fun _ => rfl) rfl ?_
    refine OS.pure rfl (fun _ => rfl) rfl ?_
    refine OS.pure rfl (e_is (fun _ => rfl) (congrArg Value.bool b1)) rfl ?_
    refine OS.nil ?_
    repeat refine LS.seq ?_
    refine LS.cond rfl (fun hc => ?_) (fun hc => ?_)
    · cases hc
    refine LS.skip ?_
    repeat refine LS.seq ?_
    refine LS.region rfl ?_
    refine OS.pure rfl (fun _ => rfl) rfl ?_
    refine OS.pure rfl (e_byte (j := 1) rfl rfl rfl rfl rfl) rfl ?_
    refine OS.nil ?_
    repeat refine LS.seq ?_
    refine LS.block ?_
    repeat refine LS.seq ?_
    refine LS.region rfl ?_
    refine OS.pure rfl (fun _ => rfl) rfl ?_
    refine OS.pure rfl (fun _ => rfl) rfl ?_
    refine OS.nil ?_
    repeat refine LS.seq ?_
    refine LS.cond rfl (fun h1 => ?_) (fun h1 => ?_)
    · have h1 := is_u8 34 h1 rfl
      subst h1
      refine LS.skip ?_
      repeat refine LS.seq ?_
      refine LS.cond rfl (fun hc => ?_) (fun hc => ?_)
      · repeat refine LS.seq ?_
        refine LS.region rfl ?_
        refine OS.pure rfl (fun _ => rfl) rfl ?_
        refine OS.pure rfl (e_byte (j := 1) rfl rfl rfl rfl rfl) rfl ?_
        refine OS.pure rfl (fun _ => rfl) rfl ?_
        refine OS.pure rfl (fun _ => rfl) rfl ?_
        refine OS.nil ?_
        refine LS.ret ⟨_, fun _ _ => rfl, ?_⟩
        exact ⟨by simp [tupleB, escK], rfl⟩
      · cases hc
    · have h1 := not_u8 34 h1 rfl
      repeat refine LS.seq ?_
      refine LS.region rfl ?_
      refine OS.pure rfl (fun _ => rfl) rfl ?_
      refine OS.pure rfl (fun _ => rfl) rfl ?_
      refine OS.nil ?_
      repeat refine LS.seq ?_
      refine LS.cond rfl (fun h2 => ?_) (fun h2 => ?_)
      · have h2 := is_u8 92 h2 rfl
        subst h2
        repeat refine LS.seq ?_
        refine LS.region rfl ?_
        refine OS.pure rfl (fun _ => rfl) rfl ?_
        refine OS.pure rfl (e_byte (j := 1) rfl rfl rfl rfl rfl) rfl ?_
        refine OS.pure rfl (fun _ => rfl) rfl ?_
        refine OS.pure rfl (fun _ => rfl) rfl ?_
        refine OS.nil ?_
        refine LS.ret ⟨_, fun _ _ => rfl, ?_⟩
        exact ⟨by simp [tupleB, escK], rfl⟩
      have h2 := not_u8 92 h2 rfl
      repeat refine LS.seq ?_
      refine LS.region rfl ?_
      refine OS.pure rfl (fun _ => rfl) rfl ?_
      refine OS.pure rfl (fun _ => rfl) rfl ?_
      refine OS.nil ?_
      repeat refine LS.seq ?_
      refine LS.cond rfl (fun h3 => ?_) (fun h3 => ?_)
      · have h3 := is_u8 110 h3 rfl
        subst h3
        repeat refine LS.seq ?_
        refine LS.region rfl ?_
        refine OS.pure rfl (fun _ => rfl) rfl ?_
        refine OS.pure rfl (fun _ => rfl) rfl ?_
        refine OS.nil ?_
        refine LS.ret ⟨_, fun _ _ => rfl, ?_⟩
        exact ⟨by simp [tupleB, escK], rfl⟩
      have h3 := not_u8 110 h3 rfl
      repeat refine LS.seq ?_
      refine LS.region rfl ?_
      refine OS.pure rfl (fun _ => rfl) rfl ?_
      refine OS.pure rfl (fun _ => rfl) rfl ?_
      refine OS.nil ?_
      repeat refine LS.seq ?_
      refine LS.cond rfl (fun h4 => ?_) (fun h4 => ?_)
      · have h4 := is_u8 116 h4 rfl
        subst h4
        repeat refine LS.seq ?_
        refine LS.region rfl ?_
        refine OS.pure rfl (fun _ => rfl) rfl ?_
        refine OS.pure rfl (fun _ => rfl) rfl ?_
        refine OS.nil ?_
        refine LS.ret ⟨_, fun _ _ => rfl, ?_⟩
        exact ⟨by simp [tupleB, escK], rfl⟩
      have h4 := not_u8 116 h4 rfl
      repeat refine LS.seq ?_
      refine LS.region rfl ?_
      refine OS.pure rfl (fun _ => rfl) rfl ?_
      refine OS.pure rfl (fun _ => rfl) rfl ?_
      refine OS.nil ?_
      repeat refine LS.seq ?_
      refine LS.cond rfl (fun h5 => ?_) (fun h5 => ?_)
      · have h5 := is_u8 120 h5 rfl
        subst h5
        repeat refine LS.seq ?_
        refine LS.region rfl ?_
        refine OS.pure rfl (fun _ => rfl) rfl ?_
        refine OS.pure rfl (fun _ => rfl) rfl ?_
        refine OS.call noGo rfl (fun _ => rfl) ((hexAt_ct hm (c0 :: 120 :: t) hs).mono ?_)
        rintro v L' ⟨rfl, rfl⟩
        refine ⟨_, rfl, ?_⟩
        refine OS.pure rfl (fun _ => rfl) rfl ?_
        refine OS.pure rfl (fun _ => rfl) rfl ?_
        refine OS.pure rfl (fun _ => rfl) rfl ?_
        refine OS.pure rfl (fun _ => rfl) rfl ?_
        refine OS.nil ?_
        refine LS.ret ⟨_, fun _ _ => rfl, ?_⟩
        exact ⟨by simp [tupleB, escK], rfl⟩
      have h5 := not_u8 120 h5 rfl
      refine LS.skip ?_
      repeat refine LS.seq ?_
      refine LS.region rfl ?_
      refine OS.pure rfl (fun _ => rfl) rfl ?_
      refine OS.pure rfl (fun _ => rfl) rfl ?_
      refine OS.nil ?_
      refine LS.ret ⟨_, fun _ _ => rfl, ?_⟩
      exact ⟨by simp [tupleB, escK, h1, h2, h3, h4, h5], rfl⟩
theorem markAt_ct {L : RL} {rm : Nat} (hm : (rm, .map (digE 16) 16) ∈ L) (s : List UInt8) (hs : s.length ≤ 9000000000000000) : CS Tryz.prog 127 [str s, .map (some rm)] L fun v L' => v = two (markK s) ∧ L' = L := by
  cases s with
  | nil =>
    refine CS.mk (fn := Tryz.f127) rfl rfl rfl rfl ?_
    repeat refine LS.seq ?_
    refine LS.region rfl ?_
    refine OS.pure rfl (fun _ => rfl) rfl ?_
    refine OS.pure rfl (fun _ => rfl) rfl ?_
    refine OS.nil ?_
    repeat refine LS.seq ?_
    refine LS.region rfl ?_
    refine OS.pure rfl (fun _ => rfl) rfl ?_
    refine OS.pure rfl (fun _ => rfl) rfl ?_
    refine OS.pure rfl (fun _ => rfl) rfl ?_
    refine OS.skip rfl rfl ?_
    refine OS.skip rfl rfl ?_
    refine OS.skip rfl rfl ?_
    refine OS.skip rfl rfl ?_
    refine OS.pure rfl (fun _ => rfl) rfl ?_
    refine OS.nil ?_
    repeat refine LS.seq ?_
    refine LS.cond rfl (fun hc => ?_) (fun hc => ?_)
    · repeat refine LS.seq ?_
      refine LS.region rfl ?_
      refine OS.pure rfl (fun _ => rfl) rfl ?_
      refine OS.pure rfl (fun _ => rfl) rfl ?_
      refine OS.nil ?_
      refine LS.ret ⟨_, fun _ _ => rfl, ?_⟩
      exact ⟨rfl, rfl⟩
    · cases hc
  | cons c s =>
    refine CS.mk (fn := Tryz.f127) rfl rfl rfl rfl ?_
    repeat refine LS.seq ?_
    refine LS.region rfl ?_
    refine OS.pure rfl (fun _ => rfl) rfl ?_
    refine OS.pure rfl (fun _ => rfl) rfl ?_
    refine OS.nil ?_
    repeat refine LS.seq ?_
    refine LS.region rfl ?_
    refine OS.pure rfl (fun _ => rfl) rfl ?_
    refine OS.pure rfl (fun _ => rfl) rfl ?_
    refine OS.pure rfl (fun _ => rfl) rfl ?_
    refine OS.pure rfl (fun _ => rfl) rfl ?_
    refine OS.pure rfl (e_byte (j := 0) rfl rfl rfl rfl rfl) rfl ?_
    refine OS.call noGo rfl (fun _ => rfl) ((isShown_ct c).mono ?_)
    rintro v L' ⟨rfl, rfl⟩
    refine ⟨_, rfl, ?_⟩
    refine OS.pure rfl (fun _ => rfl) rfl ?_
    refine OS.pure rfl (fun _ => rfl) rfl ?_
    refine OS.nil ?_
    repeat refine LS.seq ?_
    refine LS.cond rfl (fun hc => ?_) (fun hc => ?_)
    · have hc : isS c = false := by simpa using hc
      repeat refine LS.seq ?_
      refine LS.region rfl ?_
      refine OS.pure rfl (fun _ => rfl) rfl ?_
      refine OS.pure rfl (fun _ => rfl) rfl ?_
      refine OS.nil ?_
      refine LS.ret ⟨_, fun _ _ => rfl, ?_⟩
      exact ⟨by simp [tupleB, markK, hc], rfl⟩
    have hc : isS c = true := by simpa using hc
    refine LS.skip ?_
    repeat refine LS.seq ?_
    refine LS.region rfl ?_
    refine OS.pure rfl (fun _ => rfl) rfl ?_
    refine OS.pure rfl (e_byte (j := 0) rfl rfl rfl rfl rfl) rfl ?_
    refine OS.nil ?_
    repeat refine LS.seq ?_
    refine LS.block ?_
    repeat refine LS.seq ?_
    refine LS.region rfl ?_
    refine OS.pure rfl (fun _ => rfl) rfl ?_
    refine OS.pure rfl (fun _ => rfl) rfl ?_
    refine OS.nil ?_
    repeat refine LS.seq ?_
    refine LS.cond rfl (fun h1 => ?_) (fun h1 => ?_)
    · have h1 := is_u8 34 h1 rfl
      subst h1
      repeat refine LS.seq ?_
      refine LS.region rfl ?_
      refine OS.pure rfl (fun _ => rfl) rfl ?_
      refine OS.pure rfl (fun _ => rfl) rfl ?_
      refine OS.nil ?_
      refine LS.ret ⟨_, fun _ _ => rfl, ?_⟩
      exact ⟨by simp [tupleB, markK, hc], rfl⟩
    have h1 := not_u8 34 h1 rfl
    repeat refine LS.seq ?_
    refine LS.region rfl ?_
    refine OS.pure rfl (fun _ => rfl) rfl ?_
    refine OS.pure rfl (fun _ => rfl) rfl ?_
    refine OS.nil ?_
    repeat refine LS.seq ?_
    refine LS.cond rfl (fun h2 => ?_) (fun h2 => ?_)
    · have h2 := is_u8 92 h2 rfl
      subst h2
      repeat refine LS.seq ?_
      refine LS.region rfl ?_
      refine OS.pure rfl (fun _ => rfl) rfl ?_
      refine OS.pure rfl (fun _ => rfl) rfl ?_
      refine OS.call noGo rfl (fun _ => rfl) ((escapeAt_ct hm (92 :: s) hs).mono ?_)
      rintro v L' ⟨rfl, rfl⟩
      refine ⟨_, rfl, ?_⟩
      refine OS.pure rfl (fun _ => rfl) rfl ?_
      refine OS.pure rfl (fun _ => rfl) rfl ?_
      refine OS.pure rfl (fun _ => rfl) rfl ?_
      refine OS.pure rfl (fun _ => rfl) rfl ?_
      refine OS.nil ?_
      refine LS.ret ⟨_, fun _ _ => rfl, ?_⟩
      exact ⟨by simp [tupleB, markK, hc], rfl⟩
    have h2 := not_u8 92 h2 rfl
    refine LS.skip ?_
    repeat refine LS.seq ?_
    refine LS.region rfl ?_
    refine OS.pure rfl (fun _ => rfl) rfl ?_
    refine OS.pure rfl (e_byte (j := 0) rfl rfl rfl rfl rfl) rfl ?_
    refine OS.pure rfl (fun _ => rfl) rfl ?_
    refine OS.pure rfl (fun _ => rfl) rfl ?_
    refine OS.nil ?_
    refine LS.ret ⟨_, fun _ _ => rfl, ?_⟩
    exact ⟨by simp [tupleB, markK, hc, h1, h2], rfl⟩

/-! ### One behind the other -/
def Sane (k : List UInt8 → UInt8 × Nat) : Prop := ∀ s, (k s).2 ≤ s.length
theorem plain_sane : Sane plainK := fun s => by
  cases s with
  | nil => simp [plainK]
  | cons c s => simp only [plainK]; split <;> simp
theorem hex_sane : Sane hexK := fun s => by
  unfold hexK
  split
  · split <;> simp
  · simp
theorem esc_sane : Sane escK := fun s => by
  unfold escK
  split
  · split
    · simp
    · split
      · simp
      · split
        · simp
        · split
          · exact hex_sane _
          · simp
  · simp
theorem mark_sane : Sane markK := fun s => by
  unfold markK
  split
  · simp
  · split
    · split
      · simp
      · split
        · exact esc_sane _
        · simp
    · simp
def toldF (k : List UInt8 → UInt8 × Nat) : Nat → List UInt8 → List UInt8 × Nat
  | 0, _ => ([], 0)
  | f + 1, s => if (k s).2 = 0 then ([], 0) else ((k s).1 :: (toldF k f (s.drop (k s).2)).1, (k s).2 + (toldF k f (s.drop (k s).2)).2)
def tk (k : List UInt8 → UInt8 × Nat) (s : List UInt8) : List UInt8 × Nat := toldF k s.length s
theorem told_nil {k : List UInt8 → UInt8 × Nat} (hk : Sane k) : ∀ f, toldF k f [] = ([], 0)
  | 0 => rfl
  | f + 1 => by
    have : (k []).2 = 0 := by have := hk []; simpa using this
    simp [toldF, this]
theorem told_fuel {k : List UInt8 → UInt8 × Nat} (hk : Sane k) : ∀ (f g : Nat) (s : List UInt8), s.length ≤ f → s.length ≤ g → toldF k f s = toldF k g s
  | 0, g, s, hf, _ => by
    have : s = [] := List.eq_nil_of_length_eq_zero (by omega)
    subst this; rw [told_nil hk, told_nil hk]
  | f + 1, 0, s, _, hg => by
    have : s = [] := List.eq_nil_of_length_eq_zero (by omega)
    subst this; rw [told_nil hk, told_nil hk]
  | f + 1, g + 1, s, hf, hg => by
    simp only [toldF]
    split
    · rfl
    · rename_i h
      rw [told_fuel hk f g (s.drop (k s).2) (by rw [List.length_drop]; omega) (by rw [List.length_drop]; omega)]
theorem tk_stop {k : List UInt8 → UInt8 × Nat} {s : List UInt8} (h : (k s).2 = 0) : tk k s = ([], 0) := by
  unfold tk
  cases hl : s.length with
  | zero => rfl
  | succ n => simp [toldF, h]
theorem tk_more {k : List UInt8 → UInt8 × Nat} (hk : Sane k) {s : List UInt8} (h : (k s).2 ≠ 0) : tk k s = ((k s).1 :: (tk k (s.drop (k s).2)).1, (k s).2 + (tk k (s.drop (k s).2)).2) := by
  have hs := hk s
  unfold tk
  obtain ⟨n, hn⟩ : ∃ n, s.length = n + 1 := ⟨s.length - 1, by omega⟩
  rw [hn]
  simp only [toldF, if_neg h]
  rw [told_fuel hk n (s.drop (k s).2).length (s.drop (k s).2) (by rw [List.length_drop]; omega) (Nat.le_refl _)]
theorem tk_le {k : List UInt8 → UInt8 × Nat} (hk : Sane k) : ∀ (n : Nat) (s : List UInt8), s.length ≤ n → (tk k s).2 ≤ s.length ∧ (tk k s).1.length ≤ s.length := by
  intro n
  induction n with
  | zero => intro s h; rw [tk_stop (by have := hk s; omega)]; simp
  | succ n ih =>
    intro s h
    by_cases hz : (k s).2 = 0
    · rw [tk_stop hz]; simp
    · have hs := hk s
      have := ih (s.drop (k s).2) (by rw [List.length_drop]; omega)
      rw [List.length_drop] at this
      rw [tk_more hk hz]
      simp only [List.length_cons]
      omega
end Go.Proofs.YtmdcfnnoeimakaaGreatDoor

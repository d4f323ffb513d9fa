/- Layer 6, pure: a node; whether it may be; its bytes; how texts are ordered. -/
import Derived.Test.YtdffhllecojgcaaKn
namespace Go.Proofs.Ytdffhllecojgcaa
open Go.Am
set_option linter.unusedVariables false

structure Nd where
  leaf : Bool
  ks : List (List UInt8)
  vs : List (List UInt8)
  kids : List Int
abbrev tx (ts : List (List UInt8)) : List Value := ts.map txt
abbrev nums (zs : List Int) : List Value := zs.map fun z => Value.int .i64 z
def leT (x y : List UInt8) : Bool := bytesLt x y || bytesEq x y
/-- Do these keys rise, behind the last one, and has each its length? -/
def rise (last : List UInt8) : List (List UInt8) → Bool
  | [] => true
  | k :: r => !leT k last && decide (k.length ≤ 32) && rise k r
def mayN (n : Nd) : Bool :=
  rise [] n.ks && (if n.leaf then decide (n.vs.length = n.ks.length) && decide (n.kids.length = 0) && n.vs.all (fun v => decide (v.length ≤ 64))
    else decide (n.kids.length = n.ks.length + 1) && decide (n.vs.length = 0) && n.kids.all (fun z => decide (0 ≤ z ∧ z ≤ 32768)))
/-- The bytes of a text. -/
def tB (s : List UInt8) : List UInt8 := grp s.length ++ s
/-- The keys, and behind each its bytes. -/
def zipB : List (List UInt8) → List (List UInt8) → List UInt8
  | k :: ks, b :: bs => tB k ++ (b ++ zipB ks bs)
  | _, _ => []
/-- What stands behind the keys. -/
def behN (n : Nd) : List (List UInt8) := if n.leaf then n.vs.map tB else n.kids.tail.map cnt
def firstN (n : Nd) : List UInt8 := if n.leaf then [] else cnt (n.kids.headD 0)
def headN (n : Nd) : List UInt8 := [if n.leaf then 1 else 0] ++ grp n.ks.length
def bodyN (n : Nd) : List UInt8 := headN n ++ (firstN n ++ zipB n.ks (behN n))
def sizeN (n : Nd) : Nat := if mayN n = true then (bodyN n).length else 0
def fitsN (n : Nd) : Bool := mayN n && decide ((bodyN n).length ≤ 256)
def errN (n : Nd) : Int := if mayN n = true then (if (bodyN n).length ≤ 256 then 0 else 3) else 1
def encN (n : Nd) : List UInt8 := if fitsN n = true then bodyN n ++ List.replicate (256 - (bodyN n).length) 0 else []
/-- How many keys are below this one, and whether it is the next one. -/
def belowN (key : List UInt8) : List (List UInt8) → Nat
  | [] => 0
  | k :: ks => if bytesLt k key = true then belowN key ks + 1 else 0
def isN (key : List UInt8) (ks : List (List UInt8)) : Bool := decide (ks[belowN key ks]? = some key)

theorem tB_len {s : List UInt8} (h : s.length ≤ 100) : (tB s).length = s.length + 1 := by
  unfold tB
  rw [grp_lt (by omega)]
  simp
theorem cnt_len {z : Int} : (cnt z).length ≤ 10 := by
  unfold cnt
  split
  · exact grp_len (by omega) (by omega)
  · simp
theorem zipB_len : ∀ {ks bs : List (List UInt8)}, (∀ k ∈ ks, k.length ≤ 100) → (∀ b ∈ bs, b.length ≤ 100) → (zipB ks bs).length ≤ ks.length * 201
  | [], _, _, _ => by simp [zipB]
  | k :: ks, [], _, _ => by simp [zipB]
  | k :: ks, b :: bs, h1, h2 => by
    have h3 := zipB_len (ks := ks) (bs := bs) (fun k hk => h1 k (List.mem_cons_of_mem _ hk)) (fun b hb => h2 b (List.mem_cons_of_mem _ hb))
    have h4 := h1 k (List.mem_cons_self ..)
    have h5 := h2 b (List.mem_cons_self ..)
    simp only [zipB, List.length_append, List.length_cons, tB_len h4]
    omega
theorem lt_irr : ∀ x : List UInt8, bytesLt x x = false
  | [] => rfl
  | a :: x => by simp only [bytesLt, Nat.beq_refl]; exact lt_irr x
theorem beqn {m n : Nat} : Nat.beq m n = decide (m = n) := by
  by_cases h : m = n
  · subst h; simp
  · rw [decide_eq_false h]
    cases hb : Nat.beq m n
    · rfl
    · exact absurd (Nat.eq_of_beq_eq_true hb) h
theorem blen {m n : Nat} : Nat.ble m n = decide (m ≤ n) := by
  by_cases h : m ≤ n
  · rw [decide_eq_true h]; exact Nat.ble_eq_true_of_le h
  · rw [decide_eq_false h]
    cases hb : Nat.ble m n
    · rfl
    · exact absurd (Nat.le_of_ble_eq_true hb) h
theorem lt_cons {a b : UInt8} {x y : List UInt8} : bytesLt (a :: x) (b :: y) = true ↔ a.toNat < b.toNat ∨ (a = b ∧ bytesLt x y = true) := by
  simp only [bytesLt]
  rw [beqn]
  by_cases h : a.toNat = b.toNat
  · have hab : a = b := UInt8.toNat_inj.1 h
    subst hab
    simp
  · have hab : a ≠ b := fun hh => h (by rw [hh])
    rw [decide_eq_false h, blen]
    simp [hab]
    omega
theorem lt_trans : ∀ {x y z : List UInt8}, bytesLt x y = true → bytesLt y z = true → bytesLt x z = true
  | _, [], _, h, _ => by cases ‹List UInt8› <;> simp [bytesLt] at h
  | [], _ :: _, z, _, h => by cases z <;> simp [bytesLt] at h ⊢
  | a :: x, b :: y, [], _, h => by simp [bytesLt] at h
  | a :: x, b :: y, c :: z, h1, h2 => by
    rw [lt_cons] at *
    rcases h1 with h1 | ⟨rfl, h1⟩
    · rcases h2 with h2 | ⟨rfl, h2⟩
      · left; omega
      · left; omega
    · rcases h2 with h2 | ⟨rfl, h2⟩
      · left; omega
      · right; exact ⟨rfl, lt_trans h1 h2⟩
theorem lt_total : ∀ {x y : List UInt8}, bytesLt x y = true ∨ x = y ∨ bytesLt y x = true
  | [], [] => .inr (.inl rfl)
  | [], _ :: _ => .inl rfl
  | _ :: _, [] => .inr (.inr rfl)
  | a :: x, b :: y => by
    rw [lt_cons, lt_cons]
    rcases Nat.lt_trichotomy a.toNat b.toNat with h | h | h
    · exact .inl (.inl h)
    · have hab : a = b := UInt8.toNat_inj.1 h
      subst hab
      rcases lt_total (x := x) (y := y) with h | h | h
      · exact .inl (.inr ⟨rfl, h⟩)
      · exact .inr (.inl (by rw [h]))
      · exact .inr (.inr (.inr ⟨rfl, h⟩))
    · exact .inr (.inr (.inl h))
theorem beqT {x y : List UInt8} : bytesEq x y = decide (x = y) := by rw [bytesEq_eq]; by_cases h : x = y <;> simp [h]
theorem leT_iff {x y : List UInt8} : leT x y = true ↔ bytesLt x y = true ∨ x = y := by unfold leT; rw [beqT]; simp
theorem nle_iff {x y : List UInt8} : leT x y = false ↔ bytesLt y x = true := by
  constructor
  · intro h
    rcases lt_total (x := x) (y := y) with h1 | h1 | h1
    · rw [leT_iff.2 (.inl h1)] at h; cases h
    · rw [leT_iff.2 (.inr h1)] at h; cases h
    · exact h1
  · intro h
    cases hl : leT x y with
    | false => rfl
    | true =>
      rcases leT_iff.1 hl with h1 | rfl
      · have := lt_trans h h1; rw [lt_irr] at this; cases this
      · rw [lt_irr] at h; cases h
theorem nlt_iff {x y : List UInt8} : bytesLt x y = false ↔ leT y x = true := by
  constructor
  · intro h
    cases hl : leT y x with
    | true => rfl
    | false => rw [nle_iff.1 hl] at h; cases h
  · intro h
    cases hl : bytesLt x y with
    | false => rfl
    | true => rw [nle_iff.2 hl] at h; cases h

/-- What rises: its next, and its place. -/
theorem rise_cons {l k : List UInt8} {r : List (List UInt8)} : rise l (k :: r) = true ↔ bytesLt l k = true ∧ k.length ≤ 32 ∧ rise k r = true := by
  simp only [rise, Bool.and_eq_true, Bool.not_eq_true', decide_eq_true_eq, nle_iff, and_assoc]
theorem rise_all {l : List UInt8} : ∀ {ks : List (List UInt8)}, rise l ks = true → ∀ k ∈ ks, bytesLt l k = true ∧ 1 ≤ k.length ∧ k.length ≤ 32
  | [], _, k, hk => by cases hk
  | k :: r, h, k', hk => by
    obtain ⟨h1, h2, h3⟩ := rise_cons.1 h
    rcases List.mem_cons.1 hk with rfl | hk
    · refine ⟨h1, ?_, h2⟩
      cases k' with
      | nil => cases l <;> simp [bytesLt] at h1
      | cons a b => simp
    · obtain ⟨g1, g2, g3⟩ := rise_all h3 k' hk
      exact ⟨lt_trans h1 g1, g2, g3⟩
theorem rise_weak {l l' : List UInt8} (h : bytesLt l' l = true) : ∀ {ks : List (List UInt8)}, rise l ks = true → rise l' ks = true
  | [], _ => rfl
  | k :: r, hk => by
    obtain ⟨h1, h2, h3⟩ := rise_cons.1 hk
    exact rise_cons.2 ⟨lt_trans h h1, h2, h3⟩
/-- Where the keys that are below end. -/
theorem below_le (key : List UInt8) : ∀ ks : List (List UInt8), belowN key ks ≤ ks.length
  | [] => Nat.le_refl _
  | k :: ks => by simp only [belowN]; split <;> simp; exact below_le key ks
theorem below_lt {key : List UInt8} : ∀ {ks : List (List UInt8)} {i : Nat} {k : List UInt8}, i < belowN key ks → ks[i]? = some k → bytesLt k key = true
  | [], i, k, h, _ => by simp [belowN] at h
  | c :: ks, i, k, h, hk => by
    simp only [belowN] at h
    split at h
    · cases i with
      | zero => simp at hk; subst hk; assumption
      | succ i => exact below_lt (ks := ks) (i := i) (Nat.lt_of_succ_lt_succ h) (by simpa using hk)
    · omega
theorem below_at {key : List UInt8} : ∀ {ks : List (List UInt8)} {k : List UInt8}, ks[belowN key ks]? = some k → bytesLt k key = false
  | [], k, h => by simp at h
  | c :: ks, k, h => by
    simp only [belowN] at h
    split at h
    · exact below_at (by simpa using h)
    · rename_i hc
      simp at h
      subst h
      simpa using hc
/-- Keys behind one that is not below are not, if they rise. -/
theorem rise_after {l : List UInt8} : ∀ {ks : List (List UInt8)} {i j : Nat} {a b : List UInt8}, rise l ks = true → ks[i]? = some a → ks[j]? = some b → i < j → bytesLt a b = true
  | [], i, j, a, b, _, h, _, _ => by simp at h
  | k :: ks, i, j, a, b, h, ha, hb, hij => by
    obtain ⟨h1, h2, h3⟩ := rise_cons.1 h
    cases j with
    | zero => omega
    | succ j =>
      have hb : ks[j]? = some b := by simpa using hb
      cases i with
      | zero =>
        have ha : k = a := by simpa using ha
        subst ha
        exact (rise_all h3 b (List.mem_of_getElem? hb)).1
      | succ i => exact rise_after h3 (by simpa using ha) hb (by omega)
theorem below_iff {l key : List UInt8} {ks : List (List UInt8)} {i : Nat} {k : List UInt8} (h : rise l ks = true) (hk : ks[i]? = some k) : bytesLt k key = decide (i < belowN key ks) := by
  by_cases hi : i < belowN key ks
  · rw [decide_eq_true hi]; exact below_lt hi hk
  · rw [decide_eq_false hi]
    have hlt := (List.getElem?_eq_some_iff.1 hk).1
    have hb : belowN key ks < ks.length := by omega
    have hat := List.getElem?_eq_getElem hb
    have h0 := below_at hat
    rcases Nat.lt_or_ge (belowN key ks) i with h1 | h1
    · have h2 := rise_after h hat hk h1
      cases hc : bytesLt k key with
      | false => rfl
      | true => rw [lt_trans h2 hc] at h0; cases h0
    · have : i = belowN key ks := by omega
      subst this
      rw [hat] at hk
      cases hk
      exact h0
/-- The place at which the keys part is where those below end. -/
theorem below_of {l key : List UInt8} {ks : List (List UInt8)} {i : Nat} (h : rise l ks = true) (hi : i ≤ ks.length) (h1 : ∀ j k, j < i → ks[j]? = some k → bytesLt k key = true) (h2 : ∀ j k, i ≤ j → ks[j]? = some k → bytesLt k key = false) : i = belowN key ks := by
  have hl := below_le key ks
  rcases Nat.lt_trichotomy i (belowN key ks) with h3 | h3 | h3
  · have hat := List.getElem?_eq_getElem (show i < ks.length by omega)
    have := h2 i _ (Nat.le_refl _) hat
    rw [below_lt h3 hat] at this
    cases this
  · exact h3
  · have hat := List.getElem?_eq_getElem (show belowN key ks < ks.length by omega)
    have := h1 _ _ h3 hat
    rw [below_at hat] at this
    cases this
theorem may_ks {n : Nd} (h : mayN n = true) : ∀ k ∈ n.ks, k.length ≤ 32 := fun k hk => by
  have : rise [] n.ks = true := by unfold mayN at h; simp at h; exact h.1
  exact (rise_all this k hk).2.2
theorem may_vs {n : Nd} (h : mayN n = true) (hl : n.leaf = true) : n.vs.length = n.ks.length ∧ n.kids = [] ∧ ∀ v ∈ n.vs, v.length ≤ 64 := by
  unfold mayN at h
  rw [if_pos hl] at h
  simp at h
  exact ⟨h.2.1.1, h.2.1.2, h.2.2⟩
theorem may_kids {n : Nd} (h : mayN n = true) (hl : n.leaf = false) : n.kids.length = n.ks.length + 1 ∧ n.vs = [] ∧ ∀ z ∈ n.kids, 0 ≤ z ∧ z ≤ 32768 := by
  unfold mayN at h
  rw [if_neg (by simp [hl])] at h
  simp at h
  exact ⟨h.2.1.1, h.2.1.2, h.2.2⟩
theorem beh_len {n : Nd} (h : mayN n = true) : (behN n).length = n.ks.length := by
  unfold behN
  cases hl : n.leaf with
  | true => rw [if_pos rfl, List.length_map]; exact (may_vs h hl).1
  | false => rw [if_neg (by decide), List.length_map, List.length_tail, (may_kids h hl).1]; rfl
theorem beh_le {n : Nd} (h : mayN n = true) : ∀ b ∈ behN n, b.length ≤ 100 := fun b hb => by
  unfold behN at hb
  cases hl : n.leaf with
  | true =>
    rw [hl, if_pos rfl] at hb
    obtain ⟨v, hv, rfl⟩ := List.mem_map.1 hb
    have := (may_vs h hl).2.2 v hv
    rw [tB_len (by omega)]
    omega
  | false =>
    rw [hl, if_neg (by decide)] at hb
    obtain ⟨v, hv, rfl⟩ := List.mem_map.1 hb
    have := @cnt_len v
    omega
theorem first_le (n : Nd) : (firstN n).length ≤ 10 := by
  unfold firstN
  split
  · simp
  · exact cnt_len
theorem body_le {n : Nd} (h : mayN n = true) (hn : n.ks.length ≤ 1000000) : (bodyN n).length ≤ 210000000 := by
  have h1 := zipB_len (ks := n.ks) (bs := behN n) (fun k hk => by have := may_ks h k hk; omega) (beh_le h)
  have h2 : (grp n.ks.length).length ≤ 10 := grp_len (by omega) (by omega)
  have h3 := first_le n
  unfold bodyN headN
  simp only [List.length_append, List.length_cons, List.length_nil]
  omega
end Go.Proofs.Ytdffhllecojgcaa

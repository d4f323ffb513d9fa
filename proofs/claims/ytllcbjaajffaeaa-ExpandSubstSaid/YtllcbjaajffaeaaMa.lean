/- Layer 14, plain: labels, rows of axes. -/
import Derived.KernelRfl
namespace Go.Mx
set_option linter.unusedVariables false
abbrev B := List UInt8
/-- Does a byte stand behind a \ in a part that ends at this mark? -/
def isQ (c e : UInt8) : Bool := c == 92 || c == e
def mk (e : UInt8) : B → B
  | [] => []
  | c :: s => (if isQ c e then [92, c] else [c]) ++ mk e s
def vals : UInt8 → List B → B
  | _, [] => []
  | e, v :: vs => e :: (mk 44 v ++ vals 44 vs)
def label (n : B) (row : List B) : B := mk 58 n ++ vals 58 row
/-- A part, and what stands behind its mark, if there is one. -/
def take (e : UInt8) : B → Option (B × Option B)
  | [] => some ([], none)
  | c :: s => if c == e then some ([], some s) else if c == 92 then
      match s with
      | [] => none
      | d :: s' => if isQ d e then (take e s').map fun x => (d :: x.1, x.2) else none
    else (take e s).map fun x => (c :: x.1, x.2)
/-- All parts. -/
def ps : UInt8 → B → B → Option (List B)
  | _, part, [] => some [part]
  | e, part, c :: s => if c == e then (ps 44 [] s).map (part :: ·) else if c == 92 then
      match s with
      | [] => none
      | d :: s' => if isQ d e then ps e (part ++ [d]) s' else none
    else ps e (part ++ [c]) s
theorem ps_nil (e : UInt8) (part : B) : ps e part [] = some [part] := by simp [ps]
theorem ps_end {c e : UInt8} (h : (c == e) = true) (part s : B) : ps e part (c :: s) = (ps 44 [] s).map (part :: ·) := by
  cases s <;> (rw [ps.eq_def]; simp only [if_pos h])
theorem ps_q0 {e : UInt8} (h : ((92 : UInt8) == e) = false) (part : B) : ps e part [92] = none := by
  rw [ps.eq_def]; simp [h]
theorem ps_q {e : UInt8} (h : ((92 : UInt8) == e) = false) (part s : B) (d : UInt8) : ps e part (92 :: d :: s) = if isQ d e then ps e (part ++ [d]) s else none := by
  rw [ps.eq_def]; simp [h]
theorem ps_c {c e : UInt8} (h : (c == e) = false) (h2 : (c == 92) = false) (part s : B) : ps e part (c :: s) = ps e (part ++ [c]) s := by
  cases s <;> (rw [ps.eq_def]; simp only [h, h2]; simp)
theorem take_nil (e : UInt8) : take e [] = some ([], none) := by simp [take]
theorem take_end {c e : UInt8} (h : (c == e) = true) (s : B) : take e (c :: s) = some ([], some s) := by
  cases s <;> (rw [take.eq_def]; simp only [if_pos h])
theorem take_q0 {e : UInt8} (h : ((92 : UInt8) == e) = false) : take e [92] = none := by
  rw [take.eq_def]; simp [h]
theorem take_q {e : UInt8} (h : ((92 : UInt8) == e) = false) (s : B) (d : UInt8) : take e (92 :: d :: s) = if isQ d e then (take e s).map fun x => (d :: x.1, x.2) else none := by
  rw [take.eq_def]; simp [h]
theorem take_c {c e : UInt8} (h : (c == e) = false) (h2 : (c == 92) = false) (s : B) : take e (c :: s) = (take e s).map fun x => (c :: x.1, x.2) := by
  cases s <;> (rw [take.eq_def]; simp only [h, h2]; simp)
/-- The ways that a text goes on. -/
theorem ways (e : UInt8) (he : e ≠ 92) (c : UInt8) (s : B) : (c == e) = true ∨ (c = 92 ∧ ((92 : UInt8) == e) = false ∧ (s = [] ∨ ∃ d s', s = d :: s')) ∨ ((c == e) = false ∧ (c == 92) = false) := by
  by_cases h1 : (c == e) = true
  · exact .inl h1
  by_cases h2 : (c == 92) = true
  · refine .inr (.inl ⟨by simpa using h2, by simp; exact fun h => he h.symm, ?_⟩)
    cases s with
    | nil => exact .inl rfl
    | cons d s => exact .inr ⟨d, s, rfl⟩
  · exact .inr (.inr ⟨by simpa using h1, by simpa using h2⟩)
theorem ps_take (e : UInt8) (he : e ≠ 92) : ∀ (n : Nat) (s part : B), s.length ≤ n → ps e part s = match take e s with
    | none => none
    | some (p, none) => some [part ++ p]
    | some (p, some r) => (ps 44 [] r).map ((part ++ p) :: ·)
  | _, [], part, _ => by rw [ps_nil, take_nil]; simp
  | 0, c :: s, _, h => by simp at h
  | n + 1, c :: s, part, h => by
    simp only [List.length_cons] at h
    rcases ways e he c s with h1 | ⟨rfl, h1, rfl | ⟨d, s, rfl⟩⟩ | ⟨h1, h2⟩
    · rw [ps_end h1, take_end h1]; simp
    · rw [ps_q0 h1, take_q0 h1]
    · rw [ps_q h1, take_q h1]
      by_cases h3 : isQ d e = true
      · rw [if_pos h3, if_pos h3, ps_take e he n s (part ++ [d]) (by simp at h; omega)]
        cases take e s with
        | none => rfl
        | some x =>
          obtain ⟨p, r⟩ := x
          cases r <;> simp
      · rw [if_neg h3, if_neg h3]
    · rw [ps_c h1 h2, take_c h1 h2, ps_take e he n s (part ++ [c]) (by omega)]
      cases take e s with
      | none => rfl
      | some x =>
        obtain ⟨p, r⟩ := x
        cases r <;> simp
theorem ps_mk {e : UInt8} (he : e ≠ 92) : ∀ (v part t : B), ps e part (mk e v ++ t) = ps e (part ++ v) t
  | [], part, t => by simp [mk]
  | c :: v, part, t => by
    by_cases hq : isQ c e = true
    · have h1 : ((92 : UInt8) == e) = false := by simp; exact fun h => he h.symm
      simp only [mk, if_pos hq, List.cons_append, List.nil_append]
      rw [ps_q h1, if_pos hq, ps_mk he v, List.append_assoc]; rfl
    · have h2 : (c == 92) = false ∧ (c == e) = false := by simpa [isQ] using hq
      simp only [mk, if_neg hq, List.cons_append, List.nil_append]
      rw [ps_c h2.2 h2.1, ps_mk he v, List.append_assoc]; rfl
theorem ps_vals {e : UInt8} (he : e ≠ 92) : ∀ (vs : List B) (part : B), ps e part (vals e vs) = some (part :: vs)
  | [], part => by simp [vals, ps]
  | v :: vs, part => by
    rw [vals, ps_end (by simp), ps_mk (by decide), List.nil_append, ps_vals (by decide) vs]; rfl
/-- What is labelled is read. -/
theorem back (n : B) (row : List B) : ps 58 [] (label n row) = some (n :: row) := by
  rw [label, ps_mk (by decide), List.nil_append, ps_vals (by decide)]
theorem label_inj {n : B} {r₁ r₂ : List B} (h : label n r₁ = label n r₂) : r₁ = r₂ := by
  have h1 := back n r₁
  rw [h, back n r₂] at h1
  simpa using h1.symm
theorem mk_app (e : UInt8) : ∀ a b : B, mk e (a ++ b) = mk e a ++ mk e b
  | [], b => rfl
  | c :: a, b => by simp only [List.cons_append, mk, mk_app e a b, List.append_assoc]
/-- What is read is labelled. -/
theorem forth : ∀ (n : Nat) (e : UInt8) (s part : B) (l : List B), e ≠ 92 → s.length ≤ n → ps e part s = some l → ∃ p vs, l = p :: vs ∧ mk e p ++ vals e vs = mk e part ++ s
  | _, e, [], part, l, _, _, h => by
    rw [ps_nil] at h
    obtain rfl := Option.some.inj h
    exact ⟨part, [], rfl, by simp [vals]⟩
  | 0, _, c :: s, _, _, _, h, _ => by simp at h
  | n + 1, e, c :: s, part, l, he, hn, h => by
    simp only [List.length_cons] at hn
    rcases ways e he c s with h1 | ⟨rfl, h1, rfl | ⟨d, s, rfl⟩⟩ | ⟨h1, h2⟩
    · rw [ps_end h1] at h
      obtain ⟨l', h2, rfl⟩ := Option.map_eq_some_iff.1 h
      obtain ⟨p, vs, rfl, h3⟩ := forth n 44 s [] l' (by decide) (by omega) h2
      have hc : c = e := by simpa using h1
      refine ⟨part, p :: vs, rfl, ?_⟩
      rw [vals, h3, hc]; rfl
    · rw [ps_q0 h1] at h; cases h
    · rw [ps_q h1] at h
      by_cases h3 : isQ d e = true
      · rw [if_pos h3] at h
        obtain ⟨p, vs, rfl, h4⟩ := forth n e s (part ++ [d]) l he (by simp at hn; omega) h
        refine ⟨p, vs, rfl, ?_⟩
        rw [h4, mk_app]
        simp [mk, h3]
      · rw [if_neg h3] at h; cases h
    · rw [ps_c h1 h2] at h
      have hq : isQ c e = false := by
        unfold isQ
        rw [Bool.or_eq_false_iff]
        exact ⟨h2, h1⟩
      obtain ⟨p, vs, rfl, h4⟩ := forth n e s (part ++ [c]) l he (by omega) h
      refine ⟨p, vs, rfl, ?_⟩
      rw [h4, mk_app]
      simp [mk, hq]
/-! ### Rows -/
def cnt : List Nat → Nat
  | [] => 1
  | n :: ns => n * cnt ns
def dig : List Nat → Nat → List Nat
  | [], _ => []
  | _ :: ns, k => k / cnt ns :: dig ns (k % cnt ns)
/-- Goes on as a counter does: is there one more? -/
def nxt : List Nat → List Nat → List Nat × Bool
  | n :: ns, a :: as => match nxt ns as with
    | (as', true) => (a :: as', true)
    | (as', false) => if a + 1 < n then ((a + 1) :: as', true) else (0 :: as', false)
  | _, _ => ([], false)
theorem nxt_cons (n a : Nat) (ns as : List Nat) : nxt (n :: ns) (a :: as) = if (nxt ns as).2 then (a :: (nxt ns as).1, true) else if a + 1 < n then ((a + 1) :: (nxt ns as).1, true) else (0 :: (nxt ns as).1, false) := by
  rw [nxt]
  rcases h : nxt ns as with ⟨as', c⟩
  cases c <;> rfl
theorem nxt_app : ∀ (ns as ms bs : List Nat), ns.length = as.length → nxt (ns ++ ms) (as ++ bs) = if (nxt ms bs).2 then (as ++ (nxt ms bs).1, true) else ((nxt ns as).1 ++ (nxt ms bs).1, (nxt ns as).2)
  | [], [], ms, bs, _ => by
    simp only [List.nil_append, nxt]
    rcases h : nxt ms bs with ⟨x, c⟩
    cases c <;> rfl
  | [], _ :: _, _, _, h => by simp at h
  | _ :: _, [], _, _, h => by simp at h
  | n :: ns, a :: as, ms, bs, h => by
    simp only [List.cons_append]
    rw [nxt_cons, nxt_app ns as ms bs (by simpa using h), nxt_cons]
    rcases h1 : nxt ms bs with ⟨x, c⟩
    rcases h2 : nxt ns as with ⟨y, c2⟩
    cases c <;> cases c2 <;> simp
    split <;> simp
theorem dig_len : ∀ (ns : List Nat) (k : Nat), (dig ns k).length = ns.length
  | [], _ => rfl
  | _ :: ns, k => by simp [dig, dig_len ns]
theorem nxt_len : ∀ (ns as : List Nat), ns.length = as.length → (nxt ns as).1.length = as.length
  | [], [], _ => rfl
  | [], _ :: _, h => by simp at h
  | _ :: _, [], h => by simp at h
  | n :: ns, a :: as, h => by
    rw [nxt_cons]
    have := nxt_len ns as (by simpa using h)
    split
    · simp [this]
    · split <;> simp [this]
theorem nxt_dig : ∀ (ns : List Nat) (k : Nat), k < cnt ns → nxt ns (dig ns k) = (dig ns ((k + 1) % cnt ns), decide (k + 1 < cnt ns))
  | [], k, h => by
    have : k = 0 := by simp [cnt] at h; omega
    subst this; rfl
  | n :: ns, k, h => by
    have hc : 0 < cnt ns := by
      rcases Nat.eq_zero_or_pos (cnt ns) with h0 | h0
      · rw [cnt, h0] at h; simp at h
      · exact h0
    rw [cnt] at h
    have hq : k / cnt ns < n := Nat.div_lt_of_lt_mul (by rw [Nat.mul_comm]; exact h)
    have hr : k % cnt ns < cnt ns := Nat.mod_lt _ hc
    have hk : cnt ns * (k / cnt ns) + k % cnt ns = k := Nat.div_add_mod k (cnt ns)
    rw [dig, nxt_cons, nxt_dig ns _ hr]
    simp only [cnt]
    by_cases h1 : k % cnt ns + 1 < cnt ns
    · have e1 : (k % cnt ns + 1) % cnt ns = k % cnt ns + 1 := Nat.mod_eq_of_lt h1
      have e2 : (k + 1) / cnt ns = k / cnt ns := by
        rw [show k + 1 = (k % cnt ns + 1) + cnt ns * (k / cnt ns) by omega, Nat.add_mul_div_left _ _ hc, Nat.div_eq_of_lt h1]
        omega
      have e3 : (k + 1) % cnt ns = k % cnt ns + 1 := by
        rw [show k + 1 = (k % cnt ns + 1) + cnt ns * (k / cnt ns) by omega, Nat.add_mul_mod_self_left, e1]
      have hlt : k + 1 < n * cnt ns := by
        have : cnt ns * (k / cnt ns + 1) ≤ cnt ns * n := Nat.mul_le_mul_left _ (by omega)
        rw [Nat.mul_add] at this
        rw [Nat.mul_comm n]; omega
      rw [Nat.mod_eq_of_lt hlt, dig, e1, e2, e3]
      simp [h1, hlt]
    · have e0 : k % cnt ns + 1 = cnt ns := by omega
      have hk1 : k + 1 = cnt ns * (k / cnt ns + 1) := by rw [Nat.mul_add]; omega
      rw [e0, Nat.mod_self]
      by_cases h2 : k / cnt ns + 1 < n
      · have hlt : k + 1 < n * cnt ns := by
          rw [hk1, Nat.mul_comm n]; exact (Nat.mul_lt_mul_left hc).2 h2
        rw [Nat.mod_eq_of_lt hlt, dig]
        rw [show (k + 1) / cnt ns = k / cnt ns + 1 by rw [hk1, Nat.mul_div_cancel_left _ hc], show (k + 1) % cnt ns = 0 by rw [hk1, Nat.mul_mod_right]]
        simp [h2, hlt]
      · have e4 : k + 1 = n * cnt ns := by
          rw [hk1, show k / cnt ns + 1 = n by omega, Nat.mul_comm]
        rw [e4, Nat.mod_self, dig, Nat.zero_div, Nat.zero_mod]
        simp [h2]
/-- The values at places. -/
def pick : List (List B) → List Nat → List B
  | vs :: l, a :: as => vs.getD a [] :: pick l as
  | _, _ => []
theorem pick_len : ∀ (l : List (List B)) (as : List Nat), l.length = as.length → (pick l as).length = l.length
  | [], [], _ => rfl
  | [], _ :: _, h => by simp at h
  | _ :: _, [], h => by simp at h
  | _ :: l, _ :: as, h => by simp [pick, pick_len l as (by simpa using h)]
theorem pick_set : ∀ (l : List (List B)) (as : List Nat) (i j : Nat) (vs : List B), l[i]? = some vs → i < as.length → pick l (as.set i j) = (pick l as).set i (vs.getD j [])
  | [], _, _, _, _, h, _ => by simp at h
  | _ :: _, [], i, _, _, _, h => by simp at h
  | v :: l, a :: as, 0, j, vs, h, _ => by
    simp at h
    subst h
    simp [pick]
  | v :: l, a :: as, i + 1, j, vs, h, h2 => by
    simp only [List.set_cons_succ, pick]
    rw [pick_set l as i j vs (by simpa using h) (by simpa using h2)]
def lens (l : List (List B)) : List Nat := l.map (·.length)
def rowsL : List (List B) → List (List B)
  | [] => [[]]
  | vs :: l => vs.flatMap fun v => (rowsL l).map (v :: ·)
def rowAt (l : List (List B)) (k : Nat) : List B := pick l (dig (lens l) k)
theorem flat_at {A : Type} {c : Nat} (f : B → List A) (hf : ∀ v, (f v).length = c) (hc : 0 < c) : ∀ (vs : List B) (k : Nat) (v : B), vs[k / c]? = some v → (vs.flatMap f)[k]? = (f v)[k % c]?
  | [], k, v, h => by simp at h
  | w :: vs, k, v, h => by
    rw [List.flatMap_cons]
    by_cases h1 : k < c
    · rw [Nat.div_eq_of_lt h1] at h
      simp at h
      subst h
      rw [List.getElem?_append_left (by rw [hf]; exact h1), Nat.mod_eq_of_lt h1]
    · rw [List.getElem?_append_right (by rw [hf]; omega), hf]
      have e1 : k / c = (k - c) / c + 1 := by
        rw [Nat.div_eq_sub_div hc (by omega)]
      have e2 : k % c = (k - c) % c := Nat.mod_eq_sub_mod (by omega)
      rw [e1] at h
      rw [e2]
      exact flat_at f hf hc vs (k - c) v (by simpa using h)
theorem rows_len : ∀ l : List (List B), (rowsL l).length = cnt (lens l)
  | [] => rfl
  | vs :: l => by
    simp only [rowsL, lens, List.map_cons, cnt, List.length_flatMap, List.length_map, rows_len l]
    simp [List.map_const', List.sum_replicate_nat]
theorem rows_at : ∀ (l : List (List B)) (k : Nat), k < cnt (lens l) → (rowsL l)[k]? = some (rowAt l k)
  | [], k, h => by
    have : k = 0 := by simp [lens, cnt] at h; omega
    subst this; rfl
  | vs :: l, k, h => by
    simp only [lens, List.map_cons, cnt] at h
    have hc : 0 < cnt (lens l) := by
      rcases Nat.eq_zero_or_pos (cnt (lens l)) with h0 | h0
      · unfold lens at h0; rw [h0] at h; simp at h
      · exact h0
    have hq : k / cnt (lens l) < vs.length := Nat.div_lt_of_lt_mul (by rw [Nat.mul_comm]; exact h)
    rw [rowsL, flat_at (c := cnt (lens l)) _ (fun v => by rw [List.length_map, rows_len]) hc vs k _ (List.getElem?_eq_getElem hq)]
    rw [List.getElem?_map, rows_at l _ (Nat.mod_lt _ hc)]
    simp only [rowAt, lens, List.map_cons, dig, pick, Option.map_some]
    congr 2
    unfold lens at hq
    simp [hq]
def stepR (R : List (List B)) (vs : List B) : List (List B) := R.flatMap fun r => vs.map fun v => r ++ [v]
theorem fold_rows : ∀ (l : List (List B)) (R : List (List B)), l.foldl stepR R = R.flatMap fun r => (rowsL l).map (r ++ ·)
  | [], R => by simp [rowsL]
  | vs :: l, R => by
    rw [List.foldl_cons, fold_rows l]
    simp only [stepR, rowsL, List.flatMap_assoc, List.flatMap_map, List.map_flatMap, List.map_map]
    congr 1
    funext r
    congr 1
    funext v
    congr 1
    funext x
    simp
theorem ref_rows (l : List (List B)) : l.foldl stepR [[]] = rowsL l := by rw [fold_rows]; simp
/-! ### Axes -/
abbrev Ax := B × List B
def bad : List B → List Ax → Nat
  | _, [] => 0
  | seen, a :: l => if seen.contains a.1 then 6 else if a.2.length = 0 then 1 else bad (seen ++ [a.1]) l
def nsA (l : List Ax) : List Nat := l.map fun a => a.2.length
def chk (l : List Ax) : Nat := if bad [] l ≠ 0 then bad [] l else if 24 < cnt (nsA l) then 3 else 0
theorem ns_lens (l : List Ax) : nsA l = lens (l.map (·.2)) := by simp [nsA, lens]
theorem bad_pos : ∀ (l : List Ax) (seen : List B), bad seen l = 0 → ∀ a ∈ l, 0 < a.2.length
  | [], _, _, a, h => by simp at h
  | a :: l, seen, h, b, hb => by
    rw [bad] at h
    split at h
    · cases h
    · split at h
      · cases h
      · rcases List.mem_cons.1 hb with rfl | hb
        · omega
        · exact bad_pos l _ h b hb
theorem cnt_pos : ∀ l : List Nat, (∀ n ∈ l, 0 < n) → 0 < cnt l
  | [], _ => by simp [cnt]
  | n :: l, h => by
    rw [cnt]
    exact Nat.mul_pos (h n (by simp)) (cnt_pos l fun m hm => h m (by simp [hm]))
theorem cnt_snoc : ∀ (l : List Nat) (n : Nat), cnt (l ++ [n]) = cnt l * n
  | [], n => by simp [cnt]
  | m :: l, n => by simp only [List.cons_append, cnt, cnt_snoc l n, Nat.mul_assoc]
theorem cnt_app : ∀ (l m : List Nat), cnt (l ++ m) = cnt l * cnt m
  | [], n => by simp [cnt]
  | m :: l, n => by simp only [List.cons_append, cnt, cnt_app l n, Nat.mul_assoc]
theorem cnt_take_le (l : List Nat) (h : ∀ n ∈ l, 0 < n) (k : Nat) : cnt (l.take k) ≤ cnt l := by
  have e : cnt l = cnt (l.take k) * cnt (l.drop k) := by rw [← cnt_app, List.take_append_drop]
  have := cnt_pos (l.drop k) fun n hn => h n (List.mem_of_mem_drop hn)
  rw [e]
  exact Nat.le_mul_of_pos_right _ this
/-! ### Rows are apart -/
def apart1 (vs : List B) : Prop := ∀ i j, i < j → j < vs.length → vs[i]? ≠ vs[j]?
theorem dig_lt : ∀ (ns : List Nat) (k : Nat), k < cnt ns → ∀ (i a : Nat), (dig ns k)[i]? = some a → ∃ n : Nat, ns[i]? = some n ∧ a < n
  | [], _, _, i, a, h => by simp [dig] at h
  | n :: ns, k, hk, i, a, h => by
    rw [cnt] at hk
    have hc : 0 < cnt ns := by
      rcases Nat.eq_zero_or_pos (cnt ns) with h0 | h0
      · rw [h0] at hk; simp at hk
      · exact h0
    cases i with
    | zero =>
      simp [dig] at h
      subst h
      exact ⟨n, rfl, Nat.div_lt_of_lt_mul (by rw [Nat.mul_comm]; exact hk)⟩
    | succ i =>
      simp only [dig, List.getElem?_cons_succ] at h
      obtain ⟨m, h1, h2⟩ := dig_lt ns _ (Nat.mod_lt _ hc) i a h
      exact ⟨m, by simpa using h1, h2⟩
theorem pick_inj : ∀ (l : List (List B)) (k j : Nat), (∀ vs ∈ l, apart1 vs) → k < cnt (lens l) → j < cnt (lens l) → rowAt l k = rowAt l j → k = j
  | [], k, j, _, hk, hj, _ => by simp [lens, cnt] at hk hj; omega
  | vs :: l, k, j, ha, hk, hj, h => by
    simp only [lens, List.map_cons, cnt] at hk hj
    have hc : 0 < cnt (lens l) := by
      rcases Nat.eq_zero_or_pos (cnt (lens l)) with h0 | h0
      · unfold lens at h0; rw [h0] at hk; simp at hk
      · exact h0
    simp only [rowAt, lens, List.map_cons, dig, pick, List.cons.injEq] at h
    have hq : k / cnt (lens l) < vs.length := Nat.div_lt_of_lt_mul (by rw [Nat.mul_comm]; exact hk)
    have hq2 : j / cnt (lens l) < vs.length := Nat.div_lt_of_lt_mul (by rw [Nat.mul_comm]; exact hj)
    have h2 := pick_inj l (k % cnt (lens l)) (j % cnt (lens l)) (fun vs h => ha vs (by simp [h])) (Nat.mod_lt _ hc) (Nat.mod_lt _ hc) h.2
    have h3 : k / cnt (lens l) = j / cnt (lens l) := by
      have h1 := h.1
      have hav := ha vs (by simp)
      have g1 : vs[k / cnt (lens l)]? = vs[j / cnt (lens l)]? := by
        unfold lens at hq hq2 ⊢
        rw [List.getElem?_eq_getElem hq, List.getElem?_eq_getElem hq2]
        simpa [List.getD_eq_getElem?_getD, hq, hq2] using h1
      rcases Nat.lt_trichotomy (k / cnt (lens l)) (j / cnt (lens l)) with h4 | h4 | h4
      · exact absurd g1 (hav _ _ h4 hq2)
      · exact h4
      · exact absurd g1.symm (hav _ _ h4 hq)
    have e1 := Nat.div_add_mod k (cnt (lens l))
    have e2 := Nat.div_add_mod j (cnt (lens l))
    rw [h2, h3] at e1
    omega
end Go.Mx

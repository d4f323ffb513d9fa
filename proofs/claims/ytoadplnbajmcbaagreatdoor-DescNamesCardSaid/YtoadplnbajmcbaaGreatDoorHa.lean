/- Layer 12, plain: what a description is, how lines are read and printed, and what follows: what is printed is read, what was read is printed, remarks change nothing but numbers. -/
namespace Go.Pd
abbrev B := List UInt8
/-- An item, a section, a description. -/
structure It where
  no : Int
  word : B
  args : List B
structure Se where
  no : Int
  kind : UInt8
  name : B
  items : List It
structure Dc where
  head : List It
  secs : List Se
def lowB (c : UInt8) : Bool := decide (97 ≤ c.toNat) && decide (c.toNat ≤ 122)
def upB (c : UInt8) : Bool := decide (65 ≤ c.toNat) && decide (c.toNat ≤ 90)
def digB (c : UInt8) : Bool := decide (48 ≤ c.toNat) && decide (c.toNat ≤ 57)
def nameB (s : B) : Bool := decide (s.length ≤ 24) && ((match s with | [] => false | c :: _ => lowB c) && s.all fun c => lowB c || (digB c || (c == 45 || c == 95)))
/-- Texts between slashes. -/
def parts : B → List B
  | [] => [[]]
  | c :: t => if c = 47 then [] :: parts t else match parts t with
    | h :: r => (c :: h) :: r
    | [] => [[c]]
def partB (p : B) : Bool := !(decide (p = []) || (decide (p = [46]) || decide (p = [46, 46])))
def pathB (s : B) : Bool := decide (s.length ≤ 48) && ((parts s).all partB && s.all fun c => c == 47 || (lowB c || (upB c || (digB c || (c == 45 || (c == 95 || c == 46))))))
def numV (s : B) : Nat := s.foldl (fun n c => 10 * n + (c.toNat - 48)) 0
/-- A number from 1 on, of at most six digits; 0: it is none. -/
def numN (s : B) : Nat := if s = [] ∨ s.head? = some 48 ∨ 6 < s.length then 0 else if s.all digB then numV s else 0
def wordB (s : B) : Bool := (decide (s ≠ []) && decide (s.length ≤ 64)) && s.all fun c => decide (33 ≤ c.toNat) && decide (c.toNat ≤ 126)
def kInclude : B := [105, 110, 99, 108, 117, 100, 101]
def kOn : B := [111, 110]
def kPaths : B := [112, 97, 116, 104, 115]
def kVar : B := [118, 97, 114]
def kUse : B := [117, 115, 101]
def kNeeds : B := [110, 101, 101, 100, 115]
def kTags : B := [116, 97, 103, 115]
def kWhen : B := [119, 104, 101, 110]
def kDo : B := [100, 111]
def kKeep : B := [107, 101, 101, 112]
def kAxis : B := [97, 120, 105, 115]
def kTries : B := [116, 114, 105, 101, 115]
def kLimit : B := [108, 105, 109, 105, 116]
def kManual : B := [109, 97, 110, 117, 97, 108]
def kTemplate : B := [116, 101, 109, 112, 108, 97, 116, 101]
def kJob : B := [106, 111, 98]
/-- May a word stand there, with so many arguments? -/
def shape (w : B) (kind : UInt8) (first : Bool) (n : Nat) : Bool :=
  if w = kInclude then kind == 0 && n == 1
  else if w = kOn ∨ w = kPaths then kind == 0 && decide (1 ≤ n)
  else if w = kVar then n == 2
  else if w = kUse then kind == 2 && (first && n == 1)
  else if w = kNeeds ∨ w = kTags ∨ w = kWhen ∨ w = kDo ∨ w = kKeep then kind != 0 && decide (1 ≤ n)
  else if w = kAxis then kind != 0 && decide (2 ≤ n)
  else if w = kTries ∨ w = kLimit then kind != 0 && n == 1
  else if w = kManual then kind != 0 && n == 0
  else false
section
variable (chk : B → Int)
/-- Must an argument of a word be a name? -/
def isName (w : B) (i : Nat) : Bool := decide (w = kUse ∨ w = kNeeds ∨ w = kTags ∨ i = 0 ∧ (w = kVar ∨ w = kAxis))
def badName (w : B) : Nat → List B → Bool
  | _, [] => false
  | i, a :: r => (isName w i && !nameB a) || badName w (i + 1) r
def badForm (w : B) : Nat → List B → Bool
  | _, [] => false
  | i, a :: r => ((decide (w = kInclude) && !pathB a) || ((decide (w = kOn ∨ w = kPaths ∨ w = kKeep) && !decide (chk a = 0)) || (decide (w = kAxis) && (decide (0 < i) && !wordB a)))) || badForm w (i + 1) r
def badNum (w : B) (a : List B) : Bool := match a with
  | [] => false
  | x :: _ => (decide (w = kTries) && !(decide (1 ≤ numN x) && decide (numN x ≤ 5))) || (decide (w = kLimit) && !(decide (1 ≤ numN x) && decide (numN x ≤ 1000)))
/-- The error of a word's arguments. -/
def argsE (w : B) (a : List B) : Nat := if badName w 0 a then 63 else if badForm chk w 0 a then 4 else if badNum w a then 1 else 0
def once (w : B) : Bool := decide (w = kWhen ∨ w = kTries ∨ w = kLimit ∨ w = kManual ∨ w = kAxis)
/-- Does an item stand there that may stand once? -/
def twice (l : List It) (w : B) (a : List B) : Bool := once w && l.any fun x => decide (x.word = w) && (!decide (w = kAxis) || decide (x.args.head? = a.head?))
/-- The kind and the items of what stands last. -/
def Dc.last (d : Dc) : UInt8 × List It := match d.secs.getLast? with
  | none => (0, d.head)
  | some s => (s.kind, s.items)
/-- With one item more. -/
def Dc.add (d : Dc) (x : It) : Dc := match d.secs.getLast? with
  | none => ⟨d.head ++ [x], d.secs⟩
  | some s => ⟨d.head, d.secs.dropLast ++ [⟨s.no, s.kind, s.name, s.items ++ [x]⟩]⟩
def kindOf (w : B) : UInt8 := if w = kJob then 2 else 1
/-- A description with one line more. -/
def line (d : Dc) (no : Int) (w : B) (a : List B) : Except Nat Dc :=
  if w = kTemplate ∨ w = kJob then match a with
    | [n] =>
      if nameB n = false then .error 63
      else if d.secs.any fun s => s.kind == kindOf w && decide (s.name = n) then .error 6
      else if 24 ≤ (d.secs.filter fun s => s.kind == kindOf w).length then .error 3
      else .ok ⟨d.head, d.secs ++ [⟨no, kindOf w, n, []⟩]⟩
    | _ => .error 4
  else if shape w d.last.1 d.last.2.isEmpty a.length = false then .error 4
  else if argsE chk w a ≠ 0 then .error (argsE chk w a)
  else if twice d.last.2 w a then .error 6
  else if 40 ≤ d.last.2.length then .error 3
  else .ok (d.add ⟨no, w, a⟩)
/-- Without the numbers of lines. -/
def It.er (x : It) : It := ⟨0, x.word, x.args⟩
def Se.er (s : Se) : Se := ⟨0, s.kind, s.name, s.items.map It.er⟩
def Dc.er (d : Dc) : Dc := ⟨d.head.map It.er, d.secs.map Se.er⟩
theorem er_last (d : Dc) : d.er.last = (d.last.1, d.last.2.map It.er) := by
  unfold Dc.last Dc.er
  simp only [List.getLast?_map]
  cases d.secs.getLast? <;> rfl
theorem er_er (x : It) : x.er.er = x.er := rfl
theorem se_er (x : Se) : x.er.er = x.er := by unfold Se.er; simp [List.map_map, Function.comp_def, er_er]
theorem dc_er (d : Dc) : d.er.er = d.er := by unfold Dc.er; simp [List.map_map, Function.comp_def, er_er, se_er]
theorem er_add (d : Dc) (x : It) : (d.add x).er = (d.er.add x.er).er := by
  unfold Dc.add Dc.er
  simp only [List.getLast?_map]
  cases h : d.secs.getLast? with
  | none => simp [List.map_map, Function.comp_def, er_er, se_er]
  | some s => simp [List.map_map, Function.comp_def, er_er, Se.er]; rfl
theorem twice_er (l : List It) (w : B) (a : List B) : twice (l.map It.er) w a = twice l w a := by
  unfold twice
  rw [List.any_map]; rfl
/-- What comes of a line does not lean on numbers. -/
theorem line_er (d : Dc) (no : Int) (w : B) (a : List B) : (line chk d no w a).map Dc.er = (line chk d.er 0 w a).map Dc.er := by
  unfold line
  by_cases h : w = kTemplate ∨ w = kJob
  · rw [if_pos h, if_pos h]
    match a with
    | [] => rfl
    | [n] =>
      have e1 : (d.er.secs.any fun s => s.kind == kindOf w && decide (s.name = n)) = d.secs.any fun s => s.kind == kindOf w && decide (s.name = n) := by
        unfold Dc.er; rw [List.any_map]; rfl
      have e2 : (d.er.secs.filter fun s => s.kind == kindOf w).length = (d.secs.filter fun s => s.kind == kindOf w).length := by
        unfold Dc.er; rw [List.filter_map, List.length_map]; rfl
      simp only [e1, e2]
      split
      · rfl
      · split
        · rfl
        · split
          · rfl
          · simp [Except.map, Dc.er, List.map_map, Function.comp_def, er_er, Se.er]
    | _ :: _ :: _ => rfl
  · rw [if_neg h, if_neg h]
    simp only [er_last, twice_er, List.length_map, List.isEmpty_map]
    split
    · rfl
    · split
      · rfl
      · split
        · rfl
        · split
          · rfl
          · simp only [Except.map]
            rw [er_add]
            have := er_add d.er ⟨0, w, a⟩
            rw [dc_er] at this
            rw [this]; rfl
/-- Lines that are read, the first of which has number no. -/
def readL (sp : B → Except Nat (List B)) : Nat → Dc → List B → Except (Nat × Nat) Dc
  | _, d, [] => .ok d
  | no, d, s :: r => match sp s with
    | .error e => .error (no, e)
    | .ok [] => readL sp (no + 1) d r
    | .ok (w :: a) => match line chk d no w a with
      | .error e => .error (no, e)
      | .ok d' => readL sp (no + 1) d' r
/-- The same but for numbers. -/
def Smr (x y : Except (Nat × Nat) Dc) : Prop := match x, y with
  | .error a, .error b => a.2 = b.2
  | .ok a, .ok b => a.er = b.er
  | _, _ => False
theorem line_same {d d' : Dc} (h : d.er = d'.er) (no no' : Int) (w : B) (a : List B) : (∃ e, line chk d no w a = .error e ∧ line chk d' no' w a = .error e) ∨ ∃ x y, line chk d no w a = .ok x ∧ line chk d' no' w a = .ok y ∧ x.er = y.er := by
  have h1 := line_er chk d no w a
  have h2 := line_er chk d' no' w a
  rw [← h, ← h1] at h2
  cases hx : line chk d no w a with
  | error e =>
    cases hy : line chk d' no' w a with
    | error e' => rw [hx, hy] at h2; simp [Except.map] at h2; subst h2; exact .inl ⟨_, rfl, rfl⟩
    | ok y => rw [hx, hy] at h2; cases h2
  | ok x =>
    cases hy : line chk d' no' w a with
    | error e' => rw [hx, hy] at h2; cases h2
    | ok y => rw [hx, hy] at h2; simp [Except.map] at h2; exact .inr ⟨x, y, rfl, rfl, h2.symm⟩
/-- Lines without words change nothing but numbers. -/
inductive Fill (sp : B → Except Nat (List B)) : List B → List B → Prop where
  | nil : Fill sp [] []
  | same {s : B} {l r : List B} (h : Fill sp l r) : Fill sp (s :: l) (s :: r)
  | more {s : B} {l r : List B} (hs : sp s = .ok []) (h : Fill sp l r) : Fill sp l (s :: r)
theorem fill_same {sp : B → Except Nat (List B)} {l r : List B} (h : Fill sp l r) : ∀ (no no' : Nat) (d d' : Dc), d.er = d'.er → Smr (readL chk sp no d l) (readL chk sp no' d' r) := by
  induction h with
  | nil => intro no no' d d' hd; exact hd
  | same h ih =>
    rename_i s l r
    intro no no' d d' hd
    unfold readL
    cases hs : sp s with
    | error e => exact rfl
    | ok ws =>
      cases ws with
      | nil => exact ih _ _ _ _ hd
      | cons w a =>
        simp only
        rcases line_same chk hd no no' w a with ⟨e, h1, h2⟩ | ⟨x, y, h1, h2, h3⟩
        · rw [h1, h2]; exact rfl
        · rw [h1, h2]; exact ih _ _ _ _ h3
  | more hs h ih =>
    rename_i s l r
    intro no no' d d' hd
    conv => arg 2; unfold readL
    rw [hs]
    exact ih _ _ _ _ hd
/-- What is printed: a line's words, how it is indented, whether it is an item. -/
abbrev Ln := List B × Bool × Bool
def It.ln (x : It) (indent : Bool) : Ln := (x.word :: x.args, indent, true)
def Se.lns (s : Se) : List Ln := ([if s.kind = 2 then kJob else kTemplate, s.name], false, false) :: s.items.map fun x => x.ln true
def ind (b : Bool) : B := if b then [32, 32] else []
/-- Lines that are printed. -/
def putL (jn : List B → Option B) : Nat → Dc → B → List Ln → Except Nat (Dc × B)
  | _, d, s, [] => .ok (d, s)
  | no, d, s, (ws, i, it) :: r => match jn ws with
    | none => .error 40
    | some t => if 400 < t.length + (ind i).length then .error 40 else match ws with
      | [] => .error 4
      | w :: a => if it = true ∧ (w = kTemplate ∨ w = kJob) then .error 4 else match line chk d no w a with
        | .error e => .error e
        | .ok d' => putL jn (no + 1) d' (s ++ (ind i ++ t ++ [10])) r
def printS (jn : List B → Option B) : Nat → Dc → B → List Se → Except Nat (Dc × B)
  | _, d, s, [] => .ok (d, s)
  | no, d, s, y :: r => if y.kind ≠ 1 ∧ y.kind ≠ 2 then .error 1 else match putL chk jn no d s y.lns with
    | .error e => .error e
    | .ok (d', s') => printS jn (no + 1 + y.items.length) d' s' r
def printD (jn : List B → Option B) (d : Dc) : Except Nat (Dc × B) := match putL chk jn 1 ⟨[], []⟩ [] (d.head.map fun x => x.ln false) with
  | .error e => .error e
  | .ok (d', s') => printS chk jn (1 + d.head.length) d' s' d.secs
/-- Numbers that rise by one. -/
def numIt : Nat → List It → List It
  | _, [] => []
  | no, x :: r => ⟨no, x.word, x.args⟩ :: numIt (no + 1) r
def numSe : Nat → List Se → List Se
  | _, [] => []
  | no, y :: r => ⟨no, y.kind, y.name, numIt (no + 1) y.items⟩ :: numSe (no + 1 + y.items.length) r
def Dc.num (d : Dc) : Dc := ⟨numIt 1 d.head, numSe (1 + d.head.length) d.secs⟩
theorem numIt_app : ∀ (l r : List It) (no : Nat), numIt no (l ++ r) = numIt no l ++ numIt (no + l.length) r
  | [], r, no => rfl
  | x :: l, r, no => by
    rw [List.cons_append, numIt, numIt_app l r, List.length_cons, numIt, List.cons_append, show no + 1 + l.length = no + (l.length + 1) by omega]
theorem numIt_er : ∀ (l : List It) (no : Nat), (numIt no l).map It.er = l.map It.er
  | [], _ => rfl
  | x :: l, no => by rw [numIt, List.map_cons, numIt_er l, List.map_cons]; rfl
theorem numIt_len : ∀ (l : List It) (no : Nat), (numIt no l).length = l.length
  | [], _ => rfl
  | x :: l, no => by rw [numIt, List.length_cons, numIt_len l, List.length_cons]
def szS (l : List Se) : Nat := (l.map fun y => 1 + y.items.length).sum
theorem numSe_app : ∀ (l r : List Se) (no : Nat), numSe no (l ++ r) = numSe no l ++ numSe (no + szS l) r
  | [], r, no => rfl
  | y :: l, r, no => by
    rw [List.cons_append, numSe, numSe_app l r, numSe, List.cons_append]
    unfold szS
    rw [List.map_cons, List.sum_cons]
    congr 3; omega
theorem numSe_er : ∀ (l : List Se) (no : Nat), (numSe no l).map Se.er = l.map Se.er
  | [], _ => rfl
  | y :: l, no => by rw [numSe, List.map_cons, numSe_er l, List.map_cons]; unfold Se.er; simp [numIt_er]
theorem num_er (d : Dc) : d.num.er = d.er := by unfold Dc.num Dc.er; simp [numIt_er, numSe_er]
/-- Items behind what stands last. -/
def Dc.adds (d : Dc) : List It → Dc
  | [] => d
  | x :: r => (d.add x).adds r
theorem adds_head : ∀ (l : List It) (h : List It), (Dc.mk h []).adds l = ⟨h ++ l, []⟩
  | [], h => by simp [Dc.adds]
  | x :: l, h => by
    rw [Dc.adds]
    show (Dc.mk (h ++ [x]) []).adds l = _
    rw [adds_head l]; simp
theorem add_last (h : List It) (S : List Se) (y : Se) (x : It) : (Dc.mk h (S ++ [y])).add x = ⟨h, S ++ [⟨y.no, y.kind, y.name, y.items ++ [x]⟩]⟩ := by
  unfold Dc.add; simp
theorem adds_last : ∀ (l : List It) (h : List It) (S : List Se) (y : Se), (Dc.mk h (S ++ [y])).adds l = ⟨h, S ++ [⟨y.no, y.kind, y.name, y.items ++ l⟩]⟩
  | [], h, S, y => by simp [Dc.adds]
  | x :: l, h, S, y => by
    rw [Dc.adds, add_last, adds_last l]; simp
theorem line_item {d d' : Dc} {no : Int} {w : B} {a : List B} (hw : ¬ (w = kTemplate ∨ w = kJob)) (h : line chk d no w a = .ok d') : d' = d.add ⟨no, w, a⟩ := by
  unfold line at h
  rw [if_neg hw] at h
  split at h
  · cases h
  · split at h
    · cases h
    · split at h
      · cases h
      · split at h
        · cases h
        · cases h; rfl
theorem line_sec {d d' : Dc} {no : Int} {w : B} {a : List B} (hw : w = kTemplate ∨ w = kJob) (h : line chk d no w a = .ok d') : ∃ n, a = [n] ∧ d' = ⟨d.head, d.secs ++ [⟨no, kindOf w, n, []⟩]⟩ := by
  unfold line at h
  rw [if_pos hw] at h
  match a, h with
  | [n], h =>
    simp only at h
    split at h
    · cases h
    · split at h
      · cases h
      · split at h
        · cases h
        · cases h; exact ⟨n, rfl, rfl⟩
/-- What printing items comes to. -/
theorem put_items {jn : List B → Option B} {b : Bool} : ∀ {l : List It} {no : Nat} {d d' : Dc} {s s' : B}, putL chk jn no d s (l.map fun x => x.ln b) = .ok (d', s') → d' = d.adds (numIt no l)
  | [], no, d, d', s, s', h => by cases h; rfl
  | x :: l, no, d, d', s, s', h => by
    rw [List.map_cons, It.ln, putL] at h
    split at h
    · cases h
    · split at h
      · cases h
      · simp only at h
        split at h
        · cases h
        · rename_i hw
          have hw' : ¬ (x.word = kTemplate ∨ x.word = kJob) := fun e => hw ⟨trivial, e⟩
          split at h
          · cases h
          · rename_i d2 hl
            have := line_item chk hw' hl
            subst this
            rw [put_items h]; rfl
theorem put_app {jn : List B → Option B} : ∀ {l r : List Ln} {no : Nat} {d : Dc} {s : B}, putL chk jn no d s (l ++ r) = match putL chk jn no d s l with
    | .error e => .error e
    | .ok (d', s') => putL chk jn (no + l.length) d' s' r
  | [], r, no, d, s => rfl
  | (ws, i, it) :: l, r, no, d, s => by
    rw [List.cons_append, putL, putL]
    split
    · rfl
    · split
      · rfl
      · split
        · rfl
        · split
          · rfl
          · split
            · rfl
            · rw [put_app, List.length_cons, show no + 1 + l.length = no + (l.length + 1) by omega]
theorem put_sec {jn : List B → Option B} {y : Se} (hk : y.kind = 1 ∨ y.kind = 2) {no : Nat} {d d' : Dc} {s s' : B} (h : putL chk jn no d s y.lns = .ok (d', s')) : d' = ⟨d.head, d.secs ++ [⟨no, y.kind, y.name, numIt (no + 1) y.items⟩]⟩ := by
  unfold Se.lns at h
  have hw : (if y.kind = 2 then kJob else kTemplate) = kTemplate ∨ (if y.kind = 2 then kJob else kTemplate) = kJob := by split <;> simp
  have hkk : kindOf (if y.kind = 2 then kJob else kTemplate) = y.kind := by
    rcases hk with hk | hk <;> rw [hk] <;> rfl
  generalize (if y.kind = 2 then kJob else kTemplate) = w0 at h hw hkk
  rw [putL] at h
  split at h
  · cases h
  · split at h
    · cases h
    · simp only at h
      split at h
      · cases h
      · split at h
        · cases h
        · rename_i d2 hl
          obtain ⟨n, hn, rfl⟩ := line_sec chk hw hl
          cases hn
          rw [put_items chk h, adds_last, hkk]; simp
theorem printS_num {jn : List B → Option B} : ∀ {l : List Se} {no : Nat} {d d' : Dc} {s s' : B}, printS chk jn no d s l = .ok (d', s') → d' = ⟨d.head, d.secs ++ numSe no l⟩
  | [], no, d, d', s, s', h => by cases h; simp [numSe]
  | y :: l, no, d, d', s, s', h => by
    rw [printS] at h
    split at h
    · cases h
    · rename_i hk
      split at h
      · cases h
      · rename_i d2 s2 hp
        have hk' : y.kind = 1 ∨ y.kind = 2 := by
          by_cases h1 : y.kind = 1
          · exact .inl h1
          · by_cases h2 : y.kind = 2
            · exact .inr h2
            · exact absurd ⟨h1, h2⟩ hk
        have := put_sec chk hk' hp
        subst this
        rw [printS_num h, numSe]; simp
/-- What is printed is the description, its numbers as they come. -/
theorem print_num {jn : List B → Option B} {d d' : Dc} {s : B} (h : printD chk jn d = .ok (d', s)) : d' = d.num := by
  unfold printD at h
  split at h
  · cases h
  · rename_i d2 s2 hp
    have := put_items chk hp
    rw [adds_head] at this
    subst this
    rw [printS_num chk h]; simp [Dc.num]
section
variable {sp : B → Except Nat (List B)} {jn : List B → Option B} (hj : ∀ ws t b, jn ws = some t → ¬ 400 < t.length + (ind b).length → sp (ind b ++ t) = .ok ws ∧ 10 ∉ t)
include hj
/-- What is printed is read. -/
theorem put_read : ∀ {ls : List Ln} {no : Nat} {d d' : Dc} {s s' : B}, putL chk jn no d s ls = .ok (d', s') → ∃ L : List B, s' = s ++ (L.flatMap fun l => l ++ [10]) ∧ (∀ l ∈ L, 10 ∉ l) ∧ ∀ rest, readL chk sp no d (L ++ rest) = readL chk sp (no + ls.length) d' rest
  | [], no, d, d', s, s', h => by cases h; exact ⟨[], by simp, by simp, fun _ => rfl⟩
  | (ws, i, it) :: ls, no, d, d', s, s', h => by
    rw [putL] at h
    split at h
    · cases h
    · rename_i t ht
      split at h
      · cases h
      · rename_i hle
        obtain ⟨hs, h10⟩ := hj ws t i ht hle
        split at h
        · cases h
        · split at h
          · cases h
          · split at h
            · cases h
            · rename_i d2 hl
              obtain ⟨L, rfl, hL, hr⟩ := put_read h
              refine ⟨(ind i ++ t) :: L, by simp, ?_, fun rest => ?_⟩
              · intro l hl
                rcases List.mem_cons.1 hl with rfl | hl
                · intro hm
                  rcases List.mem_append.1 hm with hm | hm
                  · cases i <;> simp [ind] at hm
                  · exact h10 hm
                · exact hL l hl
              · rw [List.cons_append, readL, hs]
                simp only [hl]
                rw [hr, List.length_cons, show no + 1 + ls.length = no + (ls.length + 1) by omega]
theorem printS_read : ∀ {l : List Se} {no : Nat} {d d' : Dc} {s s' : B}, printS chk jn no d s l = .ok (d', s') → ∃ L : List B, s' = s ++ (L.flatMap fun l => l ++ [10]) ∧ (∀ l ∈ L, 10 ∉ l) ∧ ∃ n, ∀ rest, readL chk sp no d (L ++ rest) = readL chk sp n d' rest
  | [], no, d, d', s, s', h => by cases h; exact ⟨[], by simp, by simp, no, fun _ => rfl⟩
  | y :: l, no, d, d', s, s', h => by
    rw [printS] at h
    split at h
    · cases h
    · split at h
      · cases h
      · rename_i d2 s2 hp
        obtain ⟨L1, rfl, h1, hr1⟩ := put_read chk hj hp
        obtain ⟨L2, rfl, h2, n, hr2⟩ := printS_read h
        refine ⟨L1 ++ L2, by simp, fun l hl => ?_, n, fun rest => ?_⟩
        · rcases List.mem_append.1 hl with hl | hl
          · exact h1 l hl
          · exact h2 l hl
        · rw [List.append_assoc, hr1, show y.lns.length = 1 + y.items.length by simp [Se.lns]; omega, ← Nat.add_assoc, hr2]
theorem print_read {d d' : Dc} {s : B} (h : printD chk jn d = .ok (d', s)) : ∃ L : List B, s = (L.flatMap fun l => l ++ [10]) ∧ (∀ l ∈ L, 10 ∉ l) ∧ ∃ n, ∀ rest, readL chk sp 1 ⟨[], []⟩ (L ++ rest) = readL chk sp n d' rest := by
  unfold printD at h
  split at h
  · cases h
  · rename_i d2 s2 hp
    obtain ⟨L1, rfl, h1, hr1⟩ := put_read chk hj hp
    obtain ⟨L2, rfl, h2, n, hr2⟩ := printS_read chk hj h
    refine ⟨L1 ++ L2, by simp, fun l hl => ?_, n, fun rest => ?_⟩
    · rcases List.mem_append.1 hl with hl | hl
      · exact h1 l hl
      · exact h2 l hl
    · rw [List.append_assoc, hr1, List.length_map, hr2]
end
/-! ### Descriptions that were read -/
def feed : Nat → Dc → List (List B) → Except Nat Dc
  | _, d, [] => .ok d
  | _, _, [] :: _ => .error 4
  | no, d, (w :: a) :: r => match line chk d no w a with
    | .error e => .error e
    | .ok d' => feed (no + 1) d' r
theorem feed_app : ∀ {l r : List (List B)} {no : Nat} {d : Dc}, feed chk no d (l ++ r) = match feed chk no d l with
    | .error e => .error e
    | .ok d' => feed chk (no + l.length) d' r
  | [], r, no, d => rfl
  | [] :: l, r, no, d => rfl
  | (w :: a) :: l, r, no, d => by
    rw [List.cons_append, feed, feed]
    split
    · rfl
    · rw [feed_app, List.length_cons, show no + 1 + l.length = no + (l.length + 1) by omega]
def It.ws (x : It) : List B := x.word :: x.args
def Se.ws (y : Se) : List (List B) := [if y.kind = 2 then kJob else kTemplate, y.name] :: y.items.map It.ws
def Dc.ws (d : Dc) : List (List B) := d.head.map It.ws ++ d.secs.flatMap Se.ws
def It.fine (x : It) : Prop := ¬ (x.word = kTemplate ∨ x.word = kJob)
def Se.fine (y : Se) : Prop := (y.kind = 1 ∨ y.kind = 2) ∧ ∀ x ∈ y.items, x.fine
structure Bld (d : Dc) : Prop where
  fed : feed chk 1 ⟨[], []⟩ d.ws = .ok d.num
  head : ∀ x ∈ d.head, x.fine
  secs : ∀ y ∈ d.secs, y.fine
theorem szS_ws (l : List Se) : (l.flatMap Se.ws).length = szS l := by
  induction l with
  | nil => rfl
  | cons y l ih =>
    rw [List.flatMap_cons, List.length_append, ih]
    simp [szS, Se.ws]; omega
theorem getLast_cases {A : Type} (l : List A) : l = [] ∨ ∃ S y, l = S ++ [y] := by
  rcases List.eq_nil_or_concat l with h | ⟨S, y, h⟩
  · exact .inl h
  · exact .inr ⟨S, y, by rw [h, List.concat_eq_append]⟩
theorem num_add (d : Dc) (no : Int) (w : B) (a : List B) : (d.add ⟨no, w, a⟩).num = d.num.add ⟨((1 + d.ws.length : Nat) : Int), w, a⟩ := by
  obtain ⟨h, secs⟩ := d
  rcases getLast_cases secs with rfl | ⟨S, y, rfl⟩
  · show (Dc.mk (h ++ [_]) []).num = (Dc.mk (numIt 1 h) []).add _
    simp [Dc.num, Dc.add, numSe, numIt_app, numIt, Dc.ws]
  · rw [add_last]
    unfold Dc.num
    simp only [numSe_app]
    show Dc.mk _ (_ ++ [_]) = (Dc.mk _ (_ ++ [_])).add _
    rw [add_last]
    simp only [numIt_app, numIt, Dc.ws, List.flatMap_append, List.length_append, List.length_map, szS_ws]
    congr 6
    simp [szS]; omega
theorem ws_add (d : Dc) (no : Int) (w : B) (a : List B) : (d.add ⟨no, w, a⟩).ws = d.ws ++ [w :: a] := by
  obtain ⟨h, secs⟩ := d
  rcases getLast_cases secs with rfl | ⟨S, y, rfl⟩
  · simp [Dc.ws, Dc.add, It.ws]
  · rw [add_last]
    simp [Dc.ws, Se.ws, It.ws]
theorem bld_none : Bld chk ⟨[], []⟩ := ⟨rfl, by simp, by simp⟩
theorem bld_line {d d' : Dc} {no : Int} {w : B} {a : List B} (hb : Bld chk d) (h : line chk d no w a = .ok d') : Bld chk d' := by
  have hs : ∃ y, line chk d.num ((1 + d.ws.length : Nat) : Int) w a = .ok y := by
    rcases line_same chk (num_er d).symm no ((1 + d.ws.length : Nat) : Int) w a with ⟨e, h1, h2⟩ | ⟨x, y, h1, h2, h3⟩
    · rw [h] at h1; cases h1
    · exact ⟨y, h2⟩
  obtain ⟨y, hy⟩ := hs
  have hfeed : feed chk 1 ⟨[], []⟩ (d.ws ++ [w :: a]) = .ok y := by
    rw [feed_app, hb.fed]
    simp only [feed, hy]
  by_cases hw : w = kTemplate ∨ w = kJob
  · obtain ⟨n, rfl, rfl⟩ := line_sec chk hw h
    obtain ⟨n', hn, rfl⟩ := line_sec chk hw hy
    cases hn
    have hk : (if kindOf w = 2 then kJob else kTemplate) = w := by rcases hw with rfl | rfl <;> rfl
    refine ⟨?_, hb.head, fun y hy => ?_⟩
    · have e : (Dc.mk d.head (d.secs ++ [⟨no, kindOf w, n, []⟩])).ws = d.ws ++ [[w, n]] := by
        simp [Dc.ws, Se.ws, hk]
      rw [e, hfeed]
      congr 1
      simp only [Dc.num, numSe_app, numSe, numIt, Dc.ws, List.length_append, List.length_map, szS_ws]
      congr 4; omega
    · rcases List.mem_append.1 hy with hy | hy
      · exact hb.secs y hy
      · simp at hy; subst hy
        refine ⟨?_, by simp⟩
        rcases hw with rfl | rfl
        · exact .inl rfl
        · exact .inr rfl
  · have e1 := line_item chk hw h
    have e2 := line_item chk hw hy
    subst e1; subst e2
    refine ⟨by rw [ws_add, hfeed, num_add], ?_, ?_⟩
    · obtain ⟨hd, secs⟩ := d
      rcases getLast_cases secs with rfl | ⟨S, y, rfl⟩
      · intro x hx
        simp [Dc.add] at hx
        rcases hx with hx | rfl
        · exact hb.head x hx
        · exact hw
      · rw [add_last]; exact hb.head
    · obtain ⟨hd, secs⟩ := d
      rcases getLast_cases secs with rfl | ⟨S, y, rfl⟩
      · intro x hx; simp [Dc.add] at hx
      · rw [add_last]
        intro z hz
        rcases List.mem_append.1 hz with hz | hz
        · exact hb.secs z (List.mem_append_left _ hz)
        · simp at hz; subst hz
          have hy := hb.secs y (by simp)
          refine ⟨hy.1, fun x hx => ?_⟩
          rcases List.mem_append.1 hx with hx | hx
          · exact hy.2 x hx
          · simp at hx; subst hx; exact hw
theorem bld_read {sp : B → Except Nat (List B)} : ∀ {l : List B} {no : Nat} {d x : Dc}, Bld chk d → readL chk sp no d l = .ok x → Bld chk x
  | [], no, d, x, hb, h => by cases h; exact hb
  | s :: l, no, d, x, hb, h => by
    rw [readL] at h
    split at h
    · cases h
    · exact bld_read hb h
    · split at h
      · cases h
      · rename_i hl
        exact bld_read (bld_line chk hb hl) h
theorem put_feed {jn : List B → Option B} : ∀ {ls : List Ln} {no : Nat} {d d' : Dc} {s : B}, feed chk no d (ls.map fun l => l.1) = .ok d' → (∀ l ∈ ls, l.2.2 = true → ¬ (l.1.head? = some kTemplate ∨ l.1.head? = some kJob)) → putL chk jn no d s ls = .error 40 ∨ ∃ s', putL chk jn no d s ls = .ok (d', s')
  | [], no, d, d', s, h, _ => by cases h; exact .inr ⟨s, rfl⟩
  | ([], i, it) :: ls, no, d, d', s, h, _ => by cases h
  | (w :: a, i, it) :: ls, no, d, d', s, h, hf => by
    rw [List.map_cons, feed] at h
    split at h
    · cases h
    · rename_i d2 hl
      rw [putL]
      split
      · exact .inl rfl
      · split
        · exact .inl rfl
        · have hit : ¬ (it = true ∧ (w = kTemplate ∨ w = kJob)) := fun ⟨h1, h2⟩ => hf _ (List.mem_cons_self ..) h1 (by rcases h2 with rfl | rfl <;> simp)
          simp only [hit, if_false, hl]
          exact put_feed h fun l hm => hf l (List.mem_cons_of_mem _ hm)
theorem printS_feed {jn : List B → Option B} : ∀ {l : List Se} {no : Nat} {d d' : Dc} {s : B}, feed chk no d (l.flatMap Se.ws) = .ok d' → (∀ y ∈ l, y.fine) → printS chk jn no d s l = .error 40 ∨ ∃ s', printS chk jn no d s l = .ok (d', s')
  | [], no, d, d', s, h, _ => by cases h; exact .inr ⟨s, rfl⟩
  | y :: l, no, d, d', s, h, hf => by
    rw [List.flatMap_cons, feed_app] at h
    split at h
    · cases h
    · rename_i d2 h1
      have hy := hf y (List.mem_cons_self ..)
      have hk : ¬ (y.kind ≠ 1 ∧ y.kind ≠ 2) := fun ⟨a, b⟩ => by rcases hy.1 with h | h <;> contradiction
      rw [printS, if_neg hk]
      have hp := put_feed (jn := jn) chk (ls := y.lns) (s := s) (no := no) (d := d) (d' := d2) (by rw [← h1]; congr 1; simp [Se.lns, Se.ws, It.ln, It.ws, List.map_map, Function.comp_def]) (by
        intro l hl hit
        simp [Se.lns] at hl
        rcases hl with rfl | ⟨x, hx, rfl⟩
        · cases hit
        · have := hy.2 x hx
          simpa [It.ln, It.fine] using this)
      rcases hp with hp | ⟨s', hp⟩
      · rw [hp]; exact .inl rfl
      · rw [hp]
        simp only
        refine printS_feed ?_ fun z hz => hf z (List.mem_cons_of_mem _ hz)
        rw [← h]
        congr 1
        simp [Se.ws]; omega
/-- What was read is printed, but for lines that are too long. -/
theorem bld_print {jn : List B → Option B} {d : Dc} (hb : Bld chk d) : printD chk jn d = .error 40 ∨ ∃ r, printD chk jn d = .ok r := by
  have h := hb.fed
  unfold Dc.ws at h
  rw [feed_app] at h
  split at h
  · cases h
  · rename_i d2 h1
    unfold printD
    have hp := put_feed (jn := jn) chk (ls := d.head.map fun x => x.ln false) (s := []) (no := 1) (d := ⟨[], []⟩) (d' := d2) (by rw [← h1]; congr 1; simp [It.ln, It.ws, List.map_map, Function.comp_def]) (by
      intro l hl hit
      simp at hl
      obtain ⟨x, hx, rfl⟩ := hl
      have := hb.head x hx
      simpa [It.ln, It.fine] using this)
    rcases hp with hp | ⟨s', hp⟩
    · rw [hp]; exact .inl rfl
    · rw [hp]
      simp only
      rw [List.length_map] at h
      rcases printS_feed chk (jn := jn) (s := s') h hb.secs with h2 | ⟨s2, h2⟩
      · exact .inl h2
      · exact .inr ⟨_, h2⟩
end
end Go.Pd
namespace Go.Pd
/-- Lines of a text. -/
def segs : B → List B
  | [] => [[]]
  | c :: t => if c = 10 then [] :: segs t else match segs t with
    | h :: r => (c :: h) :: r
    | [] => [[c]]
theorem segs_at {t : B} : ∀ {a : B}, 10 ∉ a → segs (a ++ 10 :: t) = a :: segs t
  | [], _ => by simp [segs]
  | c :: a, h => by
    have h1 : c ≠ 10 := fun e => h (by simp [e])
    have h2 : 10 ∉ a := fun e => h (by simp [e])
    simp only [List.cons_append, segs, if_neg h1, segs_at h2]
theorem segs_flat : ∀ {L : List B}, (∀ l ∈ L, 10 ∉ l) → segs (L.flatMap fun l => l ++ [10]) = L ++ [[]]
  | [], _ => rfl
  | l :: L, h => by
    rw [List.flatMap_cons, List.append_assoc, List.singleton_append, segs_at (h l (List.mem_cons_self ..)), segs_flat fun x hx => h x (List.mem_cons_of_mem _ hx)]; rfl
section
variable (chk : B → Int) (sp : B → Except Nat (List B)) (jn : List B → Option B)
/-- What a text is read as. -/
def parseD (text : B) : Except (Nat × Nat) Dc := readL chk sp 1 ⟨[], []⟩ (segs text)
/-- What is printed is read, with numbers that rise by one. -/
theorem back (hj : ∀ ws t b, jn ws = some t → ¬ 400 < t.length + (ind b).length → sp (ind b ++ t) = .ok ws ∧ 10 ∉ t) (h0 : sp [] = .ok []) {d d' : Dc} {s : B} (h : printD chk jn d = .ok (d', s)) : parseD chk sp s = .ok d.num := by
  have hn := print_num chk h
  obtain ⟨L, rfl, hL, n, hr⟩ := print_read chk hj h
  unfold parseD
  rw [segs_flat hL, hr, readL, h0, ← hn]; rfl
theorem read_print {text : B} {x : Dc} (h : parseD chk sp text = .ok x) : printD chk jn x = .error 40 ∨ ∃ r, printD chk jn x = .ok r := bld_print chk (bld_read chk (bld_none chk) h)
/-- Lines put between. -/
def filler (rem : B) : List UInt8 → B
  | [] => []
  | p :: _ => if p.toNat % 3 = 1 then 35 :: (rem ++ [10]) else if p.toNat % 3 = 2 then [32, 10, 9, 35, 32] ++ (rem ++ [10]) else []
def ins (rem : B) : List UInt8 → B → B
  | _, [] => []
  | pl, c :: t => if c = 10 then c :: (filler rem pl ++ ins rem pl.tail t) else c :: ins rem pl t
variable {rem : B} (hr : 10 ∉ rem) (h1 : sp (35 :: rem) = .ok []) (h2 : sp [32] = .ok []) (h3 : sp (9 :: 35 :: 32 :: rem) = .ok [])
include hr h1 h2 h3
theorem ins_fill : ∀ (t : B) (pl : List UInt8), ∃ h r r', segs t = h :: r ∧ segs (ins rem pl t) = h :: r' ∧ Fill sp r r'
  | [], pl => ⟨[], [], [], rfl, rfl, .nil⟩
  | c :: t, pl => by
    by_cases hc : c = 10
    · subst hc
      obtain ⟨h, r, r', e1, e2, hf⟩ := ins_fill t pl.tail
      refine ⟨[], h :: r, _, by simp [segs, e1], by simp only [ins, if_true, segs]; rfl, ?_⟩
      have base : Fill sp (h :: r) (segs (ins rem pl.tail t)) := by rw [e2]; exact .same hf
      cases pl with
      | nil => exact base
      | cons p pl =>
        rw [filler]
        split
        · have : 35 :: (rem ++ [10]) ++ ins rem (p :: pl).tail t = (35 :: rem) ++ 10 :: ins rem (p :: pl).tail t := by simp
          rw [this, segs_at (by simp [hr])]
          exact .more h1 base
        · split
          · have : [32, 10, 9, 35, 32] ++ (rem ++ [10]) ++ ins rem (p :: pl).tail t = [32] ++ 10 :: ((9 :: 35 :: 32 :: rem) ++ 10 :: ins rem (p :: pl).tail t) := by simp
            rw [this, segs_at (by simp), segs_at (by simp [hr])]
            exact .more h2 (.more h3 base)
          · exact base
    · obtain ⟨h, r, r', e1, e2, hf⟩ := ins_fill t pl
      exact ⟨c :: h, r, r', by simp [segs, hc, e1], by simp [ins, segs, hc, e2], hf⟩
/-- Remarks and empty lines change nothing but numbers. -/
theorem remarks (h4 : sp (35 :: 32 :: rem) = .ok []) (text : B) (pl : List UInt8) : Smr (parseD chk sp text) (parseD chk sp ((35 :: 32 :: rem) ++ 10 :: ins rem pl text)) := by
  unfold parseD
  obtain ⟨h, r, r', e1, e2, hf⟩ := ins_fill sp hr h1 h2 h3 text pl
  rw [segs_at (by simp [hr]), e1, e2]
  exact fill_same chk (.more h4 (.same hf)) _ _ _ _ rfl
end
/-- Are these the same, their numbers too (n), or but for numbers? -/
def sameI (n : Bool) : List It → List It → Bool
  | [], [] => true
  | x :: a, y :: b => (decide (x.word = y.word) && (decide (x.args = y.args) && (!n || decide (x.no = y.no)))) && sameI n a b
  | _, _ => false
def sameS (n : Bool) : List Se → List Se → Bool
  | [], [] => true
  | x :: a, y :: b => (decide (x.kind = y.kind) && (decide (x.name = y.name) && ((!n || decide (x.no = y.no)) && sameI n x.items y.items))) && sameS n a b
  | _, _ => false
def sameD (n : Bool) (a b : Dc) : Bool := sameI n a.head b.head && sameS n a.secs b.secs
theorem sameI_len {n : Bool} : ∀ {a b : List It}, a.length ≠ b.length → sameI n a b = false
  | [], [], h => absurd rfl h
  | [], _ :: _, _ => rfl
  | _ :: _, [], _ => rfl
  | x :: a, y :: b, h => by rw [sameI, sameI_len (a := a) (b := b) (by simpa using h), Bool.and_false]
theorem sameS_len {n : Bool} : ∀ {a b : List Se}, a.length ≠ b.length → sameS n a b = false
  | [], [], h => absurd rfl h
  | [], _ :: _, _ => rfl
  | _ :: _, [], _ => rfl
  | x :: a, y :: b, h => by rw [sameS, sameS_len (a := a) (b := b) (by simpa using h), Bool.and_false]
theorem sameI_self (n : Bool) : ∀ a : List It, sameI n a a = true
  | [] => rfl
  | x :: a => by rw [sameI, sameI_self n a]; simp
theorem sameS_self (n : Bool) : ∀ a : List Se, sameS n a a = true
  | [] => rfl
  | x :: a => by rw [sameS, sameS_self n a, sameI_self]; simp
theorem sameD_self (n : Bool) (d : Dc) : sameD n d d = true := by unfold sameD; rw [sameI_self, sameS_self]; rfl
theorem sameI_er : ∀ {a b : List It}, sameI false a b = true ↔ a.map It.er = b.map It.er
  | [], [] => by simp [sameI]
  | [], _ :: _ => by simp [sameI]
  | _ :: _, [] => by simp [sameI]
  | x :: a, y :: b => by
    have ih := sameI_er (a := a) (b := b)
    simp only [sameI, Bool.not_false, Bool.true_or, Bool.and_true, Bool.and_eq_true, decide_eq_true_eq, List.map_cons, List.cons.injEq, ih, It.er, It.mk.injEq, true_and]
theorem sameS_er : ∀ {a b : List Se}, sameS false a b = true ↔ a.map Se.er = b.map Se.er
  | [], [] => by simp [sameS]
  | [], _ :: _ => by simp [sameS]
  | _ :: _, [] => by simp [sameS]
  | x :: a, y :: b => by
    have ih := sameS_er (a := a) (b := b)
    simp only [sameS, Bool.not_false, Bool.true_or, Bool.true_and, Bool.and_eq_true, decide_eq_true_eq, List.map_cons, List.cons.injEq, ih, Se.er, Se.mk.injEq, true_and, sameI_er]
theorem sameD_er {a b : Dc} : sameD false a b = true ↔ a.er = b.er := by
  unfold sameD Dc.er
  rw [Bool.and_eq_true, sameI_er, sameS_er]
  simp
/-- Do the numbers rise by one? -/
def riseI : Nat → List It → Bool
  | _, [] => true
  | no, x :: r => decide (x.no = ((no + 1 : Nat) : Int)) && riseI (no + 1) r
def riseS : Nat → List Se → Bool
  | _, [] => true
  | no, y :: r => (decide (y.no = ((no + 1 : Nat) : Int)) && riseI (no + 1) y.items) && riseS (no + 1 + y.items.length) r
def riseD (d : Dc) : Bool := riseI 0 d.head && riseS d.head.length d.secs
theorem riseI_num : ∀ (l : List It) (no : Nat), riseI no (numIt (no + 1) l) = true
  | [], _ => rfl
  | x :: l, no => by rw [numIt, riseI, riseI_num l]; simp
theorem riseS_num : ∀ (l : List Se) (no : Nat), riseS no (numSe (no + 1) l) = true
  | [], _ => rfl
  | y :: l, no => by
    rw [numSe, riseS]
    have e : no + 1 + 1 + y.items.length = no + 1 + (numIt (no + 1 + 1) y.items).length + 1 := by rw [numIt_len]; omega
    rw [e, riseS_num l, riseI_num]; simp
theorem riseD_num (d : Dc) : riseD d.num = true := by
  unfold riseD Dc.num
  rw [numIt_len, riseI_num d.head 0, Nat.add_comm, riseS_num]; rfl
end Go.Pd

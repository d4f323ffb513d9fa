import Derived.Test.YtllcbjaajffaeaaGreatDoorRk
set_option linter.unusedSimpArgs false
namespace Go.Proofs.YtllcbjaajffaeaaGreatDoor
open Go.Am Go.Pd
set_option linter.unusedVariables false
def stand (pl p : Nat) : Bool := (pl &&& p) != 0
abbrev LN (d : Dc) (no : Int) (w : W) (a : List W) : Except Nat Dc := line chk d no w a
theorem kinds_of {d : Dc} (h : DcOk d) : ∀ s, s ∈ d.secs → s.kind = 1 ∨ s.kind = 2 := by
  have key : ∀ l : List Se, l.length = (l.filter fun s => s.kind == 1).length + (l.filter fun s => s.kind == 2).length → ∀ s, s ∈ l → s.kind = 1 ∨ s.kind = 2 := by
    have le : ∀ l : List Se, (l.filter fun s => s.kind == 1).length + (l.filter fun s => s.kind == 2).length ≤ l.length := by
      intro l
      induction l with
      | nil => simp
      | cons x l ih =>
        rw [List.filter_cons, List.filter_cons]
        by_cases h1 : x.kind = 1
        · have h2 : ¬ x.kind = 2 := by rw [h1]; decide
          simp [h1]; omega
        · by_cases h2 : x.kind = 2
          · simp [h2]; omega
          · simp [h1, h2]; omega
    intro l
    induction l with
    | nil => intro _ s hs; cases hs
    | cons x l ih =>
      intro hl s hs
      have hle := le l
      by_cases h1 : x.kind = 1
      · rcases List.mem_cons.1 hs with rfl | hs
        · exact .inl h1
        · exact ih (by rw [List.filter_cons, List.filter_cons] at hl; simp [h1] at hl; omega) s hs
      · by_cases h2 : x.kind = 2
        · rcases List.mem_cons.1 hs with rfl | hs
          · exact .inr h2
          · exact ih (by rw [List.filter_cons, List.filter_cons] at hl; simp [h2] at hl; omega) s hs
        · rw [List.filter_cons, List.filter_cons] at hl
          simp [h1, h2] at hl; omega
  exact key d.secs h.secs
theorem place_cases {d : Dc} (h : DcOk d) : (placeN d = 1 ∧ d.last.1 = 0) ∨ (placeN d = 2 ∧ d.last.1 = 1) ∨ (placeN d = 4 ∧ d.last.1 = 2 ∧ d.last.2 = []) ∨ (placeN d = 8 ∧ d.last.1 = 2 ∧ d.last.2 ≠ []) := by
  unfold placeN Dc.last
  cases hl : d.secs.getLast? with
  | none => exact .inl ⟨rfl, rfl⟩
  | some s =>
    simp only
    rcases kinds_of h s (List.mem_of_getLast? hl) with hk | hk
    · rw [hk]; exact .inr (.inl ⟨rfl, rfl⟩)
    · rw [hk, if_neg (by decide)]
      by_cases hi : s.items = []
      · rw [if_pos hi]; exact .inr (.inr (.inl ⟨rfl, rfl, hi⟩))
      · rw [if_neg hi]; exact .inr (.inr (.inr ⟨rfl, rfl, hi⟩))
theorem badName_none {w : W} (h : ∀ i, isName w i = false) : ∀ (a : List W) (i : Nat), badName w i a = false
  | [], _ => rfl
  | x :: a, i => by rw [badName, h, badName_none h a]; rfl
theorem badName_all {w : W} (h : ∀ i, isName w i = true) : ∀ (a : List W) (i : Nat), badName w i a = !(a.all nameB)
  | [], _ => rfl
  | x :: a, i => by rw [badName, h, badName_all h a, List.all_cons]; cases nameB x <;> cases a.all nameB <;> rfl
theorem badName_first {w : W} (h0 : isName w 0 = true) (h : ∀ i, isName w (i + 1) = false) (x : W) (a : List W) : badName w 0 (x :: a) = !nameB x := by
  have : ∀ (a : List W) (i : Nat), badName w (i + 1) a = false := by
    intro a
    induction a with
    | nil => intro i; rfl
    | cons y a ih => intro i; rw [badName, h, ih]; rfl
  rw [badName, h0, this]; cases nameB x <;> rfl
theorem badForm_is {w : W} {p : W → Bool} (h : ∀ i x, ((decide (w = kInclude) && !pathB x) || ((decide (w = kOn ∨ w = kPaths ∨ w = kKeep) && !decide (chk x = 0)) || (decide (w = kAxis) && (decide (0 < i) && !wordB x)))) = !p x) : ∀ (a : List W) (i : Nat), badForm chk w i a = !(a.all p)
  | [], _ => rfl
  | x :: a, i => by rw [badForm, h, badForm_is h a, List.all_cons]; cases p x <;> cases a.all p <;> rfl
theorem badForm_none {w : W} (h : w ≠ kInclude ∧ w ≠ kOn ∧ w ≠ kPaths ∧ w ≠ kKeep ∧ w ≠ kAxis) : ∀ (a : List W) (i : Nat), badForm chk w i a = false := fun a i => by
  rw [badForm_is (p := fun _ => true) (by intro i x; simp [h]) a i]; simp
theorem badForm_axis : ∀ (a : List W) (i : Nat), badForm chk kAxis (i + 1) a = !(a.all wordB)
  | [], _ => rfl
  | x :: a, i => by
    rw [badForm, badForm_axis a, List.all_cons]
    have : (kAxis = kInclude) = False := by simp [kAxis, kInclude]
    have h2 : (kAxis = kOn ∨ kAxis = kPaths ∨ kAxis = kKeep) = False := by simp [kAxis, kOn, kPaths, kKeep]
    simp only [this, h2]
    cases wordB x <;> cases a.all wordB <;> simp
theorem badNum_none {w : W} (h : w ≠ kTries ∧ w ≠ kLimit) (a : List W) : badNum w a = false := by
  unfold badNum
  split
  · rfl
  · simp [h]
theorem path_eq (s : W) : (decide (s.length ≤ 48) && (cuts 47 s).all goodP) = pathB s := by
  unfold pathB
  rw [parts_cuts]
  congr 1
  have e1 : ∀ l : List W, l.all goodP = (l.all partB && l.all fun p => p.all ofPath) := by
    intro l
    induction l with
    | nil => rfl
    | cons x l ih => rw [List.all_cons, List.all_cons, List.all_cons, ih]; unfold goodP; cases partB x <;> cases x.all ofPath <;> cases l.all partB <;> simp
  have e2 : ∀ s : W, ((cuts 47 s).all fun p => p.all ofPath) = s.all fun c => c == 47 || ofPath c := by
    intro s
    induction s with
    | nil => rfl
    | cons c s ih =>
      unfold cuts
      by_cases h : c = 47
      · rw [if_pos h, List.all_cons, List.all_cons, ih]; simp [h]
      · rw [if_neg h, List.all_cons, ← ih]
        have hb : (c == 47) = false := by simpa using h
        rw [hb, Bool.false_or]
        cases hc : cuts 47 s with
        | nil => exact absurd hc (cuts_ne 47 s)
        | cons x l => simp only [List.all_cons]; rw [Bool.and_assoc]
  rw [e1, e2]
  congr 2
  funext c
  unfold ofPath ofName
  cases c == 47 <;> cases lowB c <;> cases upB c <;> cases digB c <;> cases c == 45 <;> cases c == 95 <;> cases c == 46 <;> rfl
theorem tab_none {w : W} (h : tabOf w = none) (d : Dc) (no : Int) (a : List W) : LN d no w a = .error 4 := by
  have hk : w ≠ kTemplate ∧ w ≠ kJob ∧ w ≠ kInclude ∧ w ≠ kOn ∧ w ≠ kPaths ∧ w ≠ kVar ∧ w ≠ kUse ∧ w ≠ kNeeds ∧ w ≠ kTags ∧ w ≠ kAxis ∧ w ≠ kWhen ∧ w ≠ kDo ∧ w ≠ kTries ∧ w ≠ kLimit ∧ w ≠ kManual ∧ w ≠ kKeep := by
    refine ⟨?_, ?_, ?_, ?_, ?_, ?_, ?_, ?_, ?_, ?_, ?_, ?_, ?_, ?_, ?_, ?_⟩ <;> (rintro rfl; exact absurd (congrArg Option.isSome h) (by decide))
  obtain ⟨h1, h2, h3, h4, h5, h6, h7, h8, h9, h10, h11, h12, h13, h14, h15, h16⟩ := hk
  unfold LN line
  rw [if_neg (by simp [h1, h2])]
  have : Pd.shape w d.last.1 d.last.2.isEmpty a.length = false := by
    unfold Pd.shape
    simp only [h3, h4, h5, h6, h7, h8, h9, h10, h11, h12, h13, h14, h15, h16, if_false, or_self]
  rw [if_pos this]
def takeE (t : Tb) (d : Dc) (no : Int) (w : W) (a : List W) : Except Nat Dc :=
  if stand t.pl (placeN d) = false ∨ a.length < t.lo ∨ t.hi < a.length then .error 4
  else if askE t.ask a ≠ 0 then .error (askE t.ask a)
  else if t.b ≠ 0 then (if (d.secs.any fun s => s.kind == kindOf w && decide (s.name = a.headD [])) = true then .error 6 else if 24 ≤ cnt d (kindOf w) then .error 3 else .ok ⟨d.head, d.secs ++ [⟨no, kindOf w, a.headD [], []⟩]⟩)
  else if twice d.last.2 w a = true then .error 6 else if 40 ≤ d.last.2.length then .error 3 else .ok (d.add ⟨no, w, a⟩)
theorem tab_words {w : W} {t : Tb} (h : tabOf w = some t) : (w, t) ∈ [(kTemplate, (⟨1, 15, 1, 1, .name, 2⟩ : Tb)), (kJob, ⟨2, 15, 1, 1, .name, 2⟩), (kInclude, ⟨0, 1, 1, 1, .path, 0⟩), (kOn, ⟨0, 1, 1, 400, .pat, 0⟩), (kPaths, ⟨0, 1, 1, 400, .pat, 0⟩), (kVar, ⟨0, 15, 2, 2, .nany, 0⟩), (kUse, ⟨0, 4, 1, 1, .name, 0⟩), (kNeeds, ⟨0, 14, 1, 400, .name, 0⟩), (kTags, ⟨0, 14, 1, 400, .name, 0⟩), (kAxis, ⟨0, 14, 2, 400, .nword, 2⟩), (kWhen, ⟨0, 14, 1, 400, .any, 1⟩), (kDo, ⟨0, 14, 1, 400, .any, 0⟩), (kTries, ⟨0, 14, 1, 1, .num 5, 1⟩), (kLimit, ⟨0, 14, 1, 1, .num 1000, 1⟩), (kManual, ⟨0, 14, 0, 0, .any, 1⟩), (kKeep, ⟨0, 14, 1, 400, .pat, 0⟩)] := by
  by_cases h0 : w = kTemplate
  · subst h0; rw [show tabOf kTemplate = some ⟨1, 15, 1, 1, .name, 2⟩ from by kernel_rfl] at h; cases h; simp
  by_cases h1 : w = kJob
  · subst h1; rw [show tabOf kJob = some ⟨2, 15, 1, 1, .name, 2⟩ from by kernel_rfl] at h; cases h; simp
  by_cases h2 : w = kInclude
  · subst h2; rw [show tabOf kInclude = some ⟨0, 1, 1, 1, .path, 0⟩ from by kernel_rfl] at h; cases h; simp
  by_cases h3 : w = kOn
  · subst h3; rw [show tabOf kOn = some ⟨0, 1, 1, 400, .pat, 0⟩ from by kernel_rfl] at h; cases h; simp
  by_cases h4 : w = kPaths
  · subst h4; rw [show tabOf kPaths = some ⟨0, 1, 1, 400, .pat, 0⟩ from by kernel_rfl] at h; cases h; simp
  by_cases h5 : w = kVar
  · subst h5; rw [show tabOf kVar = some ⟨0, 15, 2, 2, .nany, 0⟩ from by kernel_rfl] at h; cases h; simp
  by_cases h6 : w = kUse
  · subst h6; rw [show tabOf kUse = some ⟨0, 4, 1, 1, .name, 0⟩ from by kernel_rfl] at h; cases h; simp
  by_cases h7 : w = kNeeds
  · subst h7; rw [show tabOf kNeeds = some ⟨0, 14, 1, 400, .name, 0⟩ from by kernel_rfl] at h; cases h; simp
  by_cases h8 : w = kTags
  · subst h8; rw [show tabOf kTags = some ⟨0, 14, 1, 400, .name, 0⟩ from by kernel_rfl] at h; cases h; simp
  by_cases h9 : w = kAxis
  · subst h9; rw [show tabOf kAxis = some ⟨0, 14, 2, 400, .nword, 2⟩ from by kernel_rfl] at h; cases h; simp
  by_cases h10 : w = kWhen
  · subst h10; rw [show tabOf kWhen = some ⟨0, 14, 1, 400, .any, 1⟩ from by kernel_rfl] at h; cases h; simp
  by_cases h11 : w = kDo
  · subst h11; rw [show tabOf kDo = some ⟨0, 14, 1, 400, .any, 0⟩ from by kernel_rfl] at h; cases h; simp
  by_cases h12 : w = kTries
  · subst h12; rw [show tabOf kTries = some ⟨0, 14, 1, 1, .num 5, 1⟩ from by kernel_rfl] at h; cases h; simp
  by_cases h13 : w = kLimit
  · subst h13; rw [show tabOf kLimit = some ⟨0, 14, 1, 1, .num 1000, 1⟩ from by kernel_rfl] at h; cases h; simp
  by_cases h14 : w = kManual
  · subst h14; rw [show tabOf kManual = some ⟨0, 14, 0, 0, .any, 1⟩ from by kernel_rfl] at h; cases h; simp
  by_cases h15 : w = kKeep
  · subst h15; rw [show tabOf kKeep = some ⟨0, 14, 1, 400, .pat, 0⟩ from by kernel_rfl] at h; cases h; simp
  unfold tabOf at h
  simp only [h0, h1, h2, h3, h4, h5, h6, h7, h8, h9, h10, h11, h12, h13, h14, h15, if_false] at h
  cases h
theorem sh_Include (k : UInt8) (f : Bool) (n : Nat) : Pd.shape kInclude k f n = (k == 0 && n == 1) := by simp [Pd.shape, kInclude, kOn, kPaths, kVar, kUse, kNeeds, kTags, kAxis, kWhen, kDo, kTries, kLimit, kManual, kKeep]
theorem sh_On (k : UInt8) (f : Bool) (n : Nat) : Pd.shape kOn k f n = (k == 0 && decide (1 ≤ n)) := by simp [Pd.shape, kInclude, kOn, kPaths, kVar, kUse, kNeeds, kTags, kAxis, kWhen, kDo, kTries, kLimit, kManual, kKeep]
theorem sh_Paths (k : UInt8) (f : Bool) (n : Nat) : Pd.shape kPaths k f n = (k == 0 && decide (1 ≤ n)) := by simp [Pd.shape, kInclude, kOn, kPaths, kVar, kUse, kNeeds, kTags, kAxis, kWhen, kDo, kTries, kLimit, kManual, kKeep]
theorem sh_Var (k : UInt8) (f : Bool) (n : Nat) : Pd.shape kVar k f n = (n == 2) := by simp [Pd.shape, kInclude, kOn, kPaths, kVar, kUse, kNeeds, kTags, kAxis, kWhen, kDo, kTries, kLimit, kManual, kKeep]
theorem sh_Use (k : UInt8) (f : Bool) (n : Nat) : Pd.shape kUse k f n = (k == 2 && (f && n == 1)) := by simp [Pd.shape, kInclude, kOn, kPaths, kVar, kUse, kNeeds, kTags, kAxis, kWhen, kDo, kTries, kLimit, kManual, kKeep]
theorem sh_Needs (k : UInt8) (f : Bool) (n : Nat) : Pd.shape kNeeds k f n = (k != 0 && decide (1 ≤ n)) := by simp [Pd.shape, kInclude, kOn, kPaths, kVar, kUse, kNeeds, kTags, kAxis, kWhen, kDo, kTries, kLimit, kManual, kKeep]
theorem sh_Tags (k : UInt8) (f : Bool) (n : Nat) : Pd.shape kTags k f n = (k != 0 && decide (1 ≤ n)) := by simp [Pd.shape, kInclude, kOn, kPaths, kVar, kUse, kNeeds, kTags, kAxis, kWhen, kDo, kTries, kLimit, kManual, kKeep]
theorem sh_Axis (k : UInt8) (f : Bool) (n : Nat) : Pd.shape kAxis k f n = (k != 0 && decide (2 ≤ n)) := by simp [Pd.shape, kInclude, kOn, kPaths, kVar, kUse, kNeeds, kTags, kAxis, kWhen, kDo, kTries, kLimit, kManual, kKeep]
theorem sh_When (k : UInt8) (f : Bool) (n : Nat) : Pd.shape kWhen k f n = (k != 0 && decide (1 ≤ n)) := by simp [Pd.shape, kInclude, kOn, kPaths, kVar, kUse, kNeeds, kTags, kAxis, kWhen, kDo, kTries, kLimit, kManual, kKeep]
theorem sh_Do (k : UInt8) (f : Bool) (n : Nat) : Pd.shape kDo k f n = (k != 0 && decide (1 ≤ n)) := by simp [Pd.shape, kInclude, kOn, kPaths, kVar, kUse, kNeeds, kTags, kAxis, kWhen, kDo, kTries, kLimit, kManual, kKeep]
theorem sh_Tries (k : UInt8) (f : Bool) (n : Nat) : Pd.shape kTries k f n = (k != 0 && n == 1) := by simp [Pd.shape, kInclude, kOn, kPaths, kVar, kUse, kNeeds, kTags, kAxis, kWhen, kDo, kTries, kLimit, kManual, kKeep]
theorem sh_Limit (k : UInt8) (f : Bool) (n : Nat) : Pd.shape kLimit k f n = (k != 0 && n == 1) := by simp [Pd.shape, kInclude, kOn, kPaths, kVar, kUse, kNeeds, kTags, kAxis, kWhen, kDo, kTries, kLimit, kManual, kKeep]
theorem sh_Manual (k : UInt8) (f : Bool) (n : Nat) : Pd.shape kManual k f n = (k != 0 && n == 0) := by simp [Pd.shape, kInclude, kOn, kPaths, kVar, kUse, kNeeds, kTags, kAxis, kWhen, kDo, kTries, kLimit, kManual, kKeep]
theorem sh_Keep (k : UInt8) (f : Bool) (n : Nat) : Pd.shape kKeep k f n = (k != 0 && decide (1 ≤ n)) := by simp [Pd.shape, kInclude, kOn, kPaths, kVar, kUse, kNeeds, kTags, kAxis, kWhen, kDo, kTries, kLimit, kManual, kKeep]
theorem item_case {w : W} {t : Tb} {d : Dc} {a : List W} {no : Int} (hw : ¬ (w = kTemplate ∨ w = kJob)) (hb : t.b = 0) (hs : Pd.shape w d.last.1 d.last.2.isEmpty a.length = (stand t.pl (placeN d) && (decide (t.lo ≤ a.length) && decide (a.length ≤ t.hi)))) (he : Pd.shape w d.last.1 d.last.2.isEmpty a.length = true → argsE chk w a = askE t.ask a) : LN d no w a = takeE t d no w a := by
  unfold LN line takeE
  rw [if_neg hw]
  cases hh : Pd.shape w d.last.1 d.last.2.isEmpty a.length with
  | false =>
    rw [if_pos rfl, if_pos]
    rw [hh] at hs
    by_cases h1 : stand t.pl (placeN d) = false
    · exact .inl h1
    · rw [Bool.not_eq_false] at h1
      rw [h1, Bool.true_and] at hs
      have := (Bool.eq_false_iff.1 hs.symm)
      simp only [ne_eq, Bool.and_eq_true, decide_eq_true_eq] at this
      right; omega
  | true =>
    rw [hh] at hs
    have hs := hs.symm
    simp only [Bool.and_eq_true, decide_eq_true_eq] at hs
    have c1 : ¬ (stand t.pl (placeN d) = false ∨ a.length < t.lo ∨ t.hi < a.length) := by rw [hs.1]; simp; omega
    rw [if_neg (show ¬ true = false by simp), he hh, if_neg c1]
    by_cases hz : askE t.ask a ≠ 0
    · rw [if_pos hz, if_pos hz]
    · rw [if_neg hz, if_neg hz, if_neg (show ¬ t.b ≠ 0 by simp [hb])]
theorem sec_case {w : W} {t : Tb} {d : Dc} {a : List W} {no : Int} (hw : w = kTemplate ∨ w = kJob) (hb : t.b ≠ 0) (hs : stand t.pl (placeN d) = true) (hl : t.lo = 1 ∧ t.hi = 1) (hk : t.ask = .name) : LN d no w a = takeE t d no w a := by
  unfold LN line takeE
  rw [if_pos hw]
  match a with
  | [] => rw [if_pos (by rw [hl.1]; simp)]
  | [n] =>
    rw [if_neg (by rw [hs, hl.1, hl.2]; simp), hk]
    cases hn : nameB n with
    | false =>
      have e : askE .name [n] = 63 := by simp [askE, hn]
      rw [e, if_pos (show (63 : Nat) ≠ 0 by decide)]
      show (if nameB n = false then _ else _) = _
      rw [if_pos hn]
    | true =>
      have e : askE .name [n] = 0 := by simp [askE, hn]
      rw [e, if_neg (show ¬ (0 : Nat) ≠ 0 by simp), if_pos hb]
      show (if nameB n = false then _ else _) = _
      rw [if_neg (by rw [hn]; simp)]
      rfl
  | n :: m :: r => rw [if_pos (by rw [hl.2]; simp)]
set_option maxHeartbeats 4000000 in
theorem tab_some {w : W} {t : Tb} (h : tabOf w = some t) {d : Dc} (hd : DcOk d) (no : Int) (a : List W) (ha : a.length ≤ 400) : LN d no w a = takeE t d no w a := by
  have hw := tab_words h
  simp only [List.mem_cons, List.not_mem_nil, or_false, Prod.mk.injEq] at hw
  have hp := place_cases hd
  rcases hw with ⟨rfl, rfl⟩ | ⟨rfl, rfl⟩ | ⟨rfl, rfl⟩ | ⟨rfl, rfl⟩ | ⟨rfl, rfl⟩ | ⟨rfl, rfl⟩ | ⟨rfl, rfl⟩ | ⟨rfl, rfl⟩ | ⟨rfl, rfl⟩ | ⟨rfl, rfl⟩ | ⟨rfl, rfl⟩ | ⟨rfl, rfl⟩ | ⟨rfl, rfl⟩ | ⟨rfl, rfl⟩ | ⟨rfl, rfl⟩ | ⟨rfl, rfl⟩
  · exact sec_case (.inl rfl) (by decide) (by rcases hp with h | h | h | h <;> rw [h.1] <;> rfl) ⟨rfl, rfl⟩ rfl
  · exact sec_case (.inr rfl) (by decide) (by rcases hp with h | h | h | h <;> rw [h.1] <;> rfl) ⟨rfl, rfl⟩ rfl
  · refine item_case (by simp [kTemplate, kJob, kInclude]) rfl ?_ fun hsh => ?_
    · rw [sh_Include]
      rcases hp with ⟨h1, h2⟩ | ⟨h1, h2⟩ | ⟨h1, h2, h3⟩ | ⟨h1, h2, h3⟩ <;> rw [h1, h2, Bool.eq_iff_iff] <;> simp [stand, *] <;> omega
    · unfold argsE; rw [badName_none (by intro i; simp [isName, kInclude, kOn, kPaths, kVar, kUse, kNeeds, kTags, kAxis, kWhen, kDo, kTries, kLimit, kManual, kKeep]), badForm_is (p := pathB) (by intro i x; simp [kInclude, kOn, kPaths, kVar, kUse, kNeeds, kTags, kAxis, kWhen, kDo, kTries, kLimit, kManual, kKeep]), badNum_none (by simp [kInclude, kOn, kPaths, kVar, kUse, kNeeds, kTags, kAxis, kWhen, kDo, kTries, kLimit, kManual, kKeep])]; show _ = if a.all (fun s => decide (s.length ≤ 48) && (cuts 47 s).all goodP) then 0 else 4; rw [show (fun s : W => decide (s.length ≤ 48) && (cuts 47 s).all goodP) = pathB from funext path_eq]; cases a.all pathB <;> rfl
  · refine item_case (by simp [kTemplate, kJob, kOn]) rfl ?_ fun hsh => ?_
    · rw [sh_On]
      rcases hp with ⟨h1, h2⟩ | ⟨h1, h2⟩ | ⟨h1, h2, h3⟩ | ⟨h1, h2, h3⟩ <;> rw [h1, h2, Bool.eq_iff_iff] <;> simp [stand, *] <;> omega
    · unfold argsE; rw [badName_none (by intro i; simp [isName, kInclude, kOn, kPaths, kVar, kUse, kNeeds, kTags, kAxis, kWhen, kDo, kTries, kLimit, kManual, kKeep]), badForm_is (p := fun s => decide (chk s = 0)) (by intro i x; simp [kInclude, kOn, kPaths, kVar, kUse, kNeeds, kTags, kAxis, kWhen, kDo, kTries, kLimit, kManual, kKeep]), badNum_none (by simp [kInclude, kOn, kPaths, kVar, kUse, kNeeds, kTags, kAxis, kWhen, kDo, kTries, kLimit, kManual, kKeep])]; show _ = if a.all (fun s => decide (chk s = 0)) then 0 else 4; cases a.all (fun s => decide (chk s = 0)) <;> rfl
  · refine item_case (by simp [kTemplate, kJob, kPaths]) rfl ?_ fun hsh => ?_
    · rw [sh_Paths]
      rcases hp with ⟨h1, h2⟩ | ⟨h1, h2⟩ | ⟨h1, h2, h3⟩ | ⟨h1, h2, h3⟩ <;> rw [h1, h2, Bool.eq_iff_iff] <;> simp [stand, *] <;> omega
    · unfold argsE; rw [badName_none (by intro i; simp [isName, kInclude, kOn, kPaths, kVar, kUse, kNeeds, kTags, kAxis, kWhen, kDo, kTries, kLimit, kManual, kKeep]), badForm_is (p := fun s => decide (chk s = 0)) (by intro i x; simp [kInclude, kOn, kPaths, kVar, kUse, kNeeds, kTags, kAxis, kWhen, kDo, kTries, kLimit, kManual, kKeep]), badNum_none (by simp [kInclude, kOn, kPaths, kVar, kUse, kNeeds, kTags, kAxis, kWhen, kDo, kTries, kLimit, kManual, kKeep])]; show _ = if a.all (fun s => decide (chk s = 0)) then 0 else 4; cases a.all (fun s => decide (chk s = 0)) <;> rfl
  · refine item_case (by simp [kTemplate, kJob, kVar]) rfl ?_ fun hsh => ?_
    · rw [sh_Var]
      rcases hp with ⟨h1, h2⟩ | ⟨h1, h2⟩ | ⟨h1, h2, h3⟩ | ⟨h1, h2, h3⟩ <;> rw [h1, Bool.eq_iff_iff] <;> simp [stand, *] <;> omega
    · rw [sh_Var] at hsh
      match a, hsh with
      | x :: r, _ =>
        unfold argsE
        rw [badName_first (by simp [isName, kInclude, kOn, kPaths, kVar, kUse, kNeeds, kTags, kAxis, kWhen, kDo, kTries, kLimit, kManual, kKeep]) (by intro i; simp [isName, kInclude, kOn, kPaths, kVar, kUse, kNeeds, kTags, kAxis, kWhen, kDo, kTries, kLimit, kManual, kKeep]), badForm_none (by simp [kInclude, kOn, kPaths, kVar, kUse, kNeeds, kTags, kAxis, kWhen, kDo, kTries, kLimit, kManual, kKeep]), badNum_none (by simp [kInclude, kOn, kPaths, kVar, kUse, kNeeds, kTags, kAxis, kWhen, kDo, kTries, kLimit, kManual, kKeep])]
        show _ = if nameB x then 0 else 63
        cases nameB x <;> rfl
  · refine item_case (by simp [kTemplate, kJob, kUse]) rfl ?_ fun hsh => ?_
    · rw [sh_Use]
      rcases hp with ⟨h1, h2⟩ | ⟨h1, h2⟩ | ⟨h1, h2, h3⟩ | ⟨h1, h2, h3⟩ <;> rw [h1, h2, Bool.eq_iff_iff] <;> simp [stand, *] <;> omega
    · unfold argsE; rw [badName_all (by intro i; simp [isName, kInclude, kOn, kPaths, kVar, kUse, kNeeds, kTags, kAxis, kWhen, kDo, kTries, kLimit, kManual, kKeep]), badForm_none (by simp [kInclude, kOn, kPaths, kVar, kUse, kNeeds, kTags, kAxis, kWhen, kDo, kTries, kLimit, kManual, kKeep]), badNum_none (by simp [kInclude, kOn, kPaths, kVar, kUse, kNeeds, kTags, kAxis, kWhen, kDo, kTries, kLimit, kManual, kKeep])]; show _ = if a.all nameB then 0 else 63; cases a.all nameB <;> rfl
  · refine item_case (by simp [kTemplate, kJob, kNeeds]) rfl ?_ fun hsh => ?_
    · rw [sh_Needs]
      rcases hp with ⟨h1, h2⟩ | ⟨h1, h2⟩ | ⟨h1, h2, h3⟩ | ⟨h1, h2, h3⟩ <;> rw [h1, h2, Bool.eq_iff_iff] <;> simp [stand, *] <;> omega
    · unfold argsE; rw [badName_all (by intro i; simp [isName, kInclude, kOn, kPaths, kVar, kUse, kNeeds, kTags, kAxis, kWhen, kDo, kTries, kLimit, kManual, kKeep]), badForm_none (by simp [kInclude, kOn, kPaths, kVar, kUse, kNeeds, kTags, kAxis, kWhen, kDo, kTries, kLimit, kManual, kKeep]), badNum_none (by simp [kInclude, kOn, kPaths, kVar, kUse, kNeeds, kTags, kAxis, kWhen, kDo, kTries, kLimit, kManual, kKeep])]; show _ = if a.all nameB then 0 else 63; cases a.all nameB <;> rfl
  · refine item_case (by simp [kTemplate, kJob, kTags]) rfl ?_ fun hsh => ?_
    · rw [sh_Tags]
      rcases hp with ⟨h1, h2⟩ | ⟨h1, h2⟩ | ⟨h1, h2, h3⟩ | ⟨h1, h2, h3⟩ <;> rw [h1, h2, Bool.eq_iff_iff] <;> simp [stand, *] <;> omega
    · unfold argsE; rw [badName_all (by intro i; simp [isName, kInclude, kOn, kPaths, kVar, kUse, kNeeds, kTags, kAxis, kWhen, kDo, kTries, kLimit, kManual, kKeep]), badForm_none (by simp [kInclude, kOn, kPaths, kVar, kUse, kNeeds, kTags, kAxis, kWhen, kDo, kTries, kLimit, kManual, kKeep]), badNum_none (by simp [kInclude, kOn, kPaths, kVar, kUse, kNeeds, kTags, kAxis, kWhen, kDo, kTries, kLimit, kManual, kKeep])]; show _ = if a.all nameB then 0 else 63; cases a.all nameB <;> rfl
  · refine item_case (by simp [kTemplate, kJob, kAxis]) rfl ?_ fun hsh => ?_
    · rw [sh_Axis]
      rcases hp with ⟨h1, h2⟩ | ⟨h1, h2⟩ | ⟨h1, h2, h3⟩ | ⟨h1, h2, h3⟩ <;> rw [h1, h2, Bool.eq_iff_iff] <;> simp [stand, *] <;> omega
    · rw [sh_Axis] at hsh
      match a, hsh with
      | x :: r, _ =>
        have e0 : badForm chk kAxis 0 (x :: r) = !(r.all wordB) := by
          rw [badForm, badForm_axis]
          simp [kInclude, kOn, kPaths, kVar, kUse, kNeeds, kTags, kAxis, kWhen, kDo, kTries, kLimit, kManual, kKeep]
        unfold argsE
        rw [badName_first (by simp [isName, kInclude, kOn, kPaths, kVar, kUse, kNeeds, kTags, kAxis, kWhen, kDo, kTries, kLimit, kManual, kKeep]) (by intro i; simp [isName, kInclude, kOn, kPaths, kVar, kUse, kNeeds, kTags, kAxis, kWhen, kDo, kTries, kLimit, kManual, kKeep]), e0, badNum_none (by simp [kInclude, kOn, kPaths, kVar, kUse, kNeeds, kTags, kAxis, kWhen, kDo, kTries, kLimit, kManual, kKeep])]
        show _ = if nameB x then (if r.all wordB then 0 else 4) else 63
        cases nameB x <;> cases r.all wordB <;> rfl
      | [], h => simp at h
  · refine item_case (by simp [kTemplate, kJob, kWhen]) rfl ?_ fun hsh => ?_
    · rw [sh_When]
      rcases hp with ⟨h1, h2⟩ | ⟨h1, h2⟩ | ⟨h1, h2, h3⟩ | ⟨h1, h2, h3⟩ <;> rw [h1, h2, Bool.eq_iff_iff] <;> simp [stand, *] <;> omega
    · unfold argsE; rw [badName_none (by intro i; simp [isName, kInclude, kOn, kPaths, kVar, kUse, kNeeds, kTags, kAxis, kWhen, kDo, kTries, kLimit, kManual, kKeep]), badForm_none (by simp [kInclude, kOn, kPaths, kVar, kUse, kNeeds, kTags, kAxis, kWhen, kDo, kTries, kLimit, kManual, kKeep]), badNum_none (by simp [kInclude, kOn, kPaths, kVar, kUse, kNeeds, kTags, kAxis, kWhen, kDo, kTries, kLimit, kManual, kKeep])]; rfl
  · refine item_case (by simp [kTemplate, kJob, kDo]) rfl ?_ fun hsh => ?_
    · rw [sh_Do]
      rcases hp with ⟨h1, h2⟩ | ⟨h1, h2⟩ | ⟨h1, h2, h3⟩ | ⟨h1, h2, h3⟩ <;> rw [h1, h2, Bool.eq_iff_iff] <;> simp [stand, *] <;> omega
    · unfold argsE; rw [badName_none (by intro i; simp [isName, kInclude, kOn, kPaths, kVar, kUse, kNeeds, kTags, kAxis, kWhen, kDo, kTries, kLimit, kManual, kKeep]), badForm_none (by simp [kInclude, kOn, kPaths, kVar, kUse, kNeeds, kTags, kAxis, kWhen, kDo, kTries, kLimit, kManual, kKeep]), badNum_none (by simp [kInclude, kOn, kPaths, kVar, kUse, kNeeds, kTags, kAxis, kWhen, kDo, kTries, kLimit, kManual, kKeep])]; rfl
  · refine item_case (by simp [kTemplate, kJob, kTries]) rfl ?_ fun hsh => ?_
    · rw [sh_Tries]
      rcases hp with ⟨h1, h2⟩ | ⟨h1, h2⟩ | ⟨h1, h2, h3⟩ | ⟨h1, h2, h3⟩ <;> rw [h1, h2, Bool.eq_iff_iff] <;> simp [stand, *] <;> omega
    · rw [sh_Tries] at hsh
      match a, hsh with
      | [x], _ =>
        have e0 : badNum kTries [x] = !numOk 5 x := by
          unfold badNum numOk
          by_cases h1 : 1 ≤ numN x <;> by_cases h2 : numN x ≤ 5 <;> simp [h1, h2, kInclude, kOn, kPaths, kVar, kUse, kNeeds, kTags, kAxis, kWhen, kDo, kTries, kLimit, kManual, kKeep]
        unfold argsE
        rw [badName_none (by intro i; simp [isName, kInclude, kOn, kPaths, kVar, kUse, kNeeds, kTags, kAxis, kWhen, kDo, kTries, kLimit, kManual, kKeep]), badForm_none (by simp [kInclude, kOn, kPaths, kVar, kUse, kNeeds, kTags, kAxis, kWhen, kDo, kTries, kLimit, kManual, kKeep]), e0]
        show _ = if [x].all (numOk 5) then 0 else 1
        simp only [List.all_cons, List.all_nil, Bool.and_true]
        cases numOk 5 x <;> rfl
      | [], h => simp at h
      | _ :: _ :: _, h => simp at h
  · refine item_case (by simp [kTemplate, kJob, kLimit]) rfl ?_ fun hsh => ?_
    · rw [sh_Limit]
      rcases hp with ⟨h1, h2⟩ | ⟨h1, h2⟩ | ⟨h1, h2, h3⟩ | ⟨h1, h2, h3⟩ <;> rw [h1, h2, Bool.eq_iff_iff] <;> simp [stand, *] <;> omega
    · rw [sh_Limit] at hsh
      match a, hsh with
      | [x], _ =>
        have e0 : badNum kLimit [x] = !numOk 1000 x := by
          unfold badNum numOk
          by_cases h1 : 1 ≤ numN x <;> by_cases h2 : numN x ≤ 1000 <;> simp [h1, h2, kInclude, kOn, kPaths, kVar, kUse, kNeeds, kTags, kAxis, kWhen, kDo, kTries, kLimit, kManual, kKeep]
        unfold argsE
        rw [badName_none (by intro i; simp [isName, kInclude, kOn, kPaths, kVar, kUse, kNeeds, kTags, kAxis, kWhen, kDo, kTries, kLimit, kManual, kKeep]), badForm_none (by simp [kInclude, kOn, kPaths, kVar, kUse, kNeeds, kTags, kAxis, kWhen, kDo, kTries, kLimit, kManual, kKeep]), e0]
        show _ = if [x].all (numOk 1000) then 0 else 1
        simp only [List.all_cons, List.all_nil, Bool.and_true]
        cases numOk 1000 x <;> rfl
      | [], h => simp at h
      | _ :: _ :: _, h => simp at h
  · refine item_case (by simp [kTemplate, kJob, kManual]) rfl ?_ fun hsh => ?_
    · rw [sh_Manual]
      rcases hp with ⟨h1, h2⟩ | ⟨h1, h2⟩ | ⟨h1, h2, h3⟩ | ⟨h1, h2, h3⟩ <;> rw [h1, h2, Bool.eq_iff_iff] <;> simp [stand, *] <;> omega
    · unfold argsE; rw [badName_none (by intro i; simp [isName, kInclude, kOn, kPaths, kVar, kUse, kNeeds, kTags, kAxis, kWhen, kDo, kTries, kLimit, kManual, kKeep]), badForm_none (by simp [kInclude, kOn, kPaths, kVar, kUse, kNeeds, kTags, kAxis, kWhen, kDo, kTries, kLimit, kManual, kKeep]), badNum_none (by simp [kInclude, kOn, kPaths, kVar, kUse, kNeeds, kTags, kAxis, kWhen, kDo, kTries, kLimit, kManual, kKeep])]; rfl
  · refine item_case (by simp [kTemplate, kJob, kKeep]) rfl ?_ fun hsh => ?_
    · rw [sh_Keep]
      rcases hp with ⟨h1, h2⟩ | ⟨h1, h2⟩ | ⟨h1, h2, h3⟩ | ⟨h1, h2, h3⟩ <;> rw [h1, h2, Bool.eq_iff_iff] <;> simp [stand, *] <;> omega
    · unfold argsE; rw [badName_none (by intro i; simp [isName, kInclude, kOn, kPaths, kVar, kUse, kNeeds, kTags, kAxis, kWhen, kDo, kTries, kLimit, kManual, kKeep]), badForm_is (p := fun s => decide (chk s = 0)) (by intro i x; simp [kInclude, kOn, kPaths, kVar, kUse, kNeeds, kTags, kAxis, kWhen, kDo, kTries, kLimit, kManual, kKeep]), badNum_none (by simp [kInclude, kOn, kPaths, kVar, kUse, kNeeds, kTags, kAxis, kWhen, kDo, kTries, kLimit, kManual, kKeep])]; show _ = if a.all (fun s => decide (chk s = 0)) then 0 else 4; cases a.all (fun s => decide (chk s = 0)) <;> rfl
end Go.Proofs.YtllcbjaajffaeaaGreatDoor

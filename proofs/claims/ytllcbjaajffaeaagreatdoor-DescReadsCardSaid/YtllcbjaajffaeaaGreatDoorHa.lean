namespace Go.Pd
abbrev B := List UInt8
structure It where
  no : Int
  word : B
  args : List B
structure Se where
  no : Int
  kind : UInt8
  name : B
  items : List It
structure Dc where
  head : List It
  secs : List Se
def lowB (c : UInt8) : Bool := decide (97 ≤ c.toNat) && decide (c.toNat ≤ 122)
def upB (c : UInt8) : Bool := decide (65 ≤ c.toNat) && decide (c.toNat ≤ 90)
def digB (c : UInt8) : Bool := decide (48 ≤ c.toNat) && decide (c.toNat ≤ 57)
def nameB (s : B) : Bool := decide (s.length ≤ 24) && ((match s with | [] => false | c :: _ => lowB c) && s.all fun c => lowB c || (digB c || (c == 45 || c == 95)))
def parts : B → List B
  | [] => [[]]
  | c :: t => if c = 47 then [] :: parts t else match parts t with
    | h :: r => (c :: h) :: r
    | [] => [[c]]
def partB (p : B) : Bool := !(decide (p = []) || (decide (p = [46]) || decide (p = [46, 46])))
def pathB (s : B) : Bool := decide (s.length ≤ 48) && ((parts s).all partB && s.all fun c => c == 47 || (lowB c || (upB c || (digB c || (c == 45 || (c == 95 || c == 46))))))
def numV (s : B) : Nat := s.foldl (fun n c => 10 * n + (c.toNat - 48)) 0
def numN (s : B) : Nat := if s = [] ∨ s.head? = some 48 ∨ 6 < s.length then 0 else if s.all digB then numV s else 0
def wordB (s : B) : Bool := (decide (s ≠ []) && decide (s.length ≤ 64)) && s.all fun c => decide (33 ≤ c.toNat) && decide (c.toNat ≤ 126)
def kInclude : B := [105, 110, 99, 108, 117, 100, 101]
def kOn : B := [111, 110]
def kPaths : B := [112, 97, 116, 104, 115]
def kVar : B := [118, 97, 114]
def kUse : B := [117, 115, 101]
def kNeeds : B := [110, 101, 101, 100, 115]
def kTags : B := [116, 97, 103, 115]
def kWhen : B := [119, 104, 101, 110]
def kDo : B := [100, 111]
def kKeep : B := [107, 101, 101, 112]
def kAxis : B := [97, 120, 105, 115]
def kTries : B := [116, 114, 105, 101, 115]
def kLimit : B := [108, 105, 109, 105, 116]
def kManual : B := [109, 97, 110, 117, 97, 108]
def kTemplate : B := [116, 101, 109, 112, 108, 97, 116, 101]
def kJob : B := [106, 111, 98]
def shape (w : B) (kind : UInt8) (first : Bool) (n : Nat) : Bool :=
  if w = kInclude then kind == 0 && n == 1
  else if w = kOn ∨ w = kPaths then kind == 0 && decide (1 ≤ n)
  else if w = kVar then n == 2
  else if w = kUse then kind == 2 && (first && n == 1)
  else if w = kNeeds ∨ w = kTags ∨ w = kWhen ∨ w = kDo ∨ w = kKeep then kind != 0 && decide (1 ≤ n)
  else if w = kAxis then kind != 0 && decide (2 ≤ n)
  else if w = kTries ∨ w = kLimit then kind != 0 && n == 1
  else if w = kManual then kind != 0 && n == 0
  else false
section
variable (chk : B → Int)
def isName (w : B) (i : Nat) : Bool := decide (w = kUse ∨ w = kNeeds ∨ w = kTags ∨ i = 0 ∧ (w = kVar ∨ w = kAxis))
def badName (w : B) : Nat → List B → Bool
  | _, [] => false
  | i, a :: r => (isName w i && !nameB a) || badName w (i + 1) r
def badForm (w : B) : Nat → List B → Bool
  | _, [] => false
  | i, a :: r => ((decide (w = kInclude) && !pathB a) || ((decide (w = kOn ∨ w = kPaths ∨ w = kKeep) && !decide (chk a = 0)) || (decide (w = kAxis) && (decide (0 < i) && !wordB a)))) || badForm w (i + 1) r
def badNum (w : B) (a : List B) : Bool := match a with
  | [] => false
  | x :: _ => (decide (w = kTries) && !(decide (1 ≤ numN x) && decide (numN x ≤ 5))) || (decide (w = kLimit) && !(decide (1 ≤ numN x) && decide (numN x ≤ 1000)))
def argsE (w : B) (a : List B) : Nat := if badName w 0 a then 63 else if badForm chk w 0 a then 4 else if badNum w a then 1 else 0
def once (w : B) : Bool := decide (w = kWhen ∨ w = kTries ∨ w = kLimit ∨ w = kManual ∨ w = kAxis)
def twice (l : List It) (w : B) (a : List B) : Bool := once w && l.any fun x => decide (x.word = w) && (!decide (w = kAxis) || decide (x.args.head? = a.head?))
def Dc.last (d : Dc) : UInt8 × List It := match d.secs.getLast? with
  | none => (0, d.head)
  | some s => (s.kind, s.items)
def Dc.add (d : Dc) (x : It) : Dc := match d.secs.getLast? with
  | none => ⟨d.head ++ [x], d.secs⟩
  | some s => ⟨d.head, d.secs.dropLast ++ [⟨s.no, s.kind, s.name, s.items ++ [x]⟩]⟩
def kindOf (w : B) : UInt8 := if w = kJob then 2 else 1
def line (d : Dc) (no : Int) (w : B) (a : List B) : Except Nat Dc :=
  if w = kTemplate ∨ w = kJob then match a with
    | [n] =>
      if nameB n = false then .error 63
      else if d.secs.any fun s => s.kind == kindOf w && decide (s.name = n) then .error 6
      else if 24 ≤ (d.secs.filter fun s => s.kind == kindOf w).length then .error 3
      else .ok ⟨d.head, d.secs ++ [⟨no, kindOf w, n, []⟩]⟩
    | _ => .error 4
  else if shape w d.last.1 d.last.2.isEmpty a.length = false then .error 4
  else if argsE chk w a ≠ 0 then .error (argsE chk w a)
  else if twice d.last.2 w a then .error 6
  else if 40 ≤ d.last.2.length then .error 3
  else .ok (d.add ⟨no, w, a⟩)
def readL (sp : B → Except Nat (List B)) : Nat → Dc → List B → Except (Nat × Nat) Dc
  | _, d, [] => .ok d
  | no, d, s :: r => match sp s with
    | .error e => .error (no, e)
    | .ok [] => readL sp (no + 1) d r
    | .ok (w :: a) => match line chk d no w a with
      | .error e => .error (no, e)
      | .ok d' => readL sp (no + 1) d' r
def ind (b : Bool) : B := if b then [32, 32] else []
theorem add_last (h : List It) (S : List Se) (y : Se) (x : It) : (Dc.mk h (S ++ [y])).add x = ⟨h, S ++ [⟨y.no, y.kind, y.name, y.items ++ [x]⟩]⟩ := by
  unfold Dc.add; simp
section
variable {sp : B → Except Nat (List B)} {jn : List B → Option B} (hj : ∀ ws t b, jn ws = some t → ¬ 400 < t.length + (ind b).length → sp (ind b ++ t) = .ok ws ∧ 10 ∉ t)
include hj
end
theorem getLast_cases {A : Type} (l : List A) : l = [] ∨ ∃ S y, l = S ++ [y] := by
  rcases List.eq_nil_or_concat l with h | ⟨S, y, h⟩
  · exact .inl h
  · exact .inr ⟨S, y, by rw [h, List.concat_eq_append]⟩
end
end Go.Pd
namespace Go.Pd
def segs : B → List B
  | [] => [[]]
  | c :: t => if c = 10 then [] :: segs t else match segs t with
    | h :: r => (c :: h) :: r
    | [] => [[c]]
theorem segs_at {t : B} : ∀ {a : B}, 10 ∉ a → segs (a ++ 10 :: t) = a :: segs t
  | [], _ => by simp [segs]
  | c :: a, h => by
    have h1 : c ≠ 10 := fun e => h (by simp [e])
    have h2 : 10 ∉ a := fun e => h (by simp [e])
    simp only [List.cons_append, segs, if_neg h1, segs_at h2]
section
variable (chk : B → Int) (sp : B → Except Nat (List B)) (jn : List B → Option B)
variable {rem : B} (hr : 10 ∉ rem) (h1 : sp (35 :: rem) = .ok []) (h2 : sp [32] = .ok []) (h3 : sp (9 :: 35 :: 32 :: rem) = .ok [])
include hr h1 h2 h3
end
def sameI (n : Bool) : List It → List It → Bool
  | [], [] => true
  | x :: a, y :: b => (decide (x.word = y.word) && (decide (x.args = y.args) && (!n || decide (x.no = y.no)))) && sameI n a b
  | _, _ => false
def sameS (n : Bool) : List Se → List Se → Bool
  | [], [] => true
  | x :: a, y :: b => (decide (x.kind = y.kind) && (decide (x.name = y.name) && ((!n || decide (x.no = y.no)) && sameI n x.items y.items))) && sameS n a b
  | _, _ => false
def sameD (n : Bool) (a b : Dc) : Bool := sameI n a.head b.head && sameS n a.secs b.secs
theorem sameI_len {n : Bool} : ∀ {a b : List It}, a.length ≠ b.length → sameI n a b = false
  | [], [], h => absurd rfl h
  | [], _ :: _, _ => rfl
  | _ :: _, [], _ => rfl
  | x :: a, y :: b, h => by rw [sameI, sameI_len (a := a) (b := b) (by simpa using h), Bool.and_false]
theorem sameS_len {n : Bool} : ∀ {a b : List Se}, a.length ≠ b.length → sameS n a b = false
  | [], [], h => absurd rfl h
  | [], _ :: _, _ => rfl
  | _ :: _, [], _ => rfl
  | x :: a, y :: b, h => by rw [sameS, sameS_len (a := a) (b := b) (by simpa using h), Bool.and_false]
theorem sameI_self (n : Bool) : ∀ a : List It, sameI n a a = true
  | [] => rfl
  | x :: a => by rw [sameI, sameI_self n a]; simp
theorem sameS_self (n : Bool) : ∀ a : List Se, sameS n a a = true
  | [] => rfl
  | x :: a => by rw [sameS, sameS_self n a, sameI_self]; simp
theorem sameD_self (n : Bool) (d : Dc) : sameD n d d = true := by unfold sameD; rw [sameI_self, sameS_self]; rfl
end Go.Pd

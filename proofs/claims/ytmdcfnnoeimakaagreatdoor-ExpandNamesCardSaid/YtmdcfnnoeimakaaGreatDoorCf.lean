/- Closed runs, with few steps for a reader by reduction: slots in a tree, recursors themselves. -/
import Derived.Test.YtmdcfnnoeimakaaGreatDoorCy
namespace Go.Am
open Go.MapKept
set_option linter.unusedVariables false
noncomputable section

abbrev SL := Nat → Option Value
def aevS (sl : SL) : Operand → Option Value
  | .tmp t => sl t
  | .const v => match plain v with | true => some v | false => none
  | .global _ => none
  | .func f => some (.func (.func f) #[] #[])
def evsS (sl : SL) (xs : List Operand) : Option (List Value) :=
  List.rec (some []) (fun x _ ih => match aevS sl x with
    | some v => match ih with
      | some vs => some (v :: vs)
      | none => none
    | none => none) xs
def evPartsS (sl : SL) (xs : List (Nat × Operand)) : Option (List (Nat × Value)) :=
  List.rec (some []) (fun x _ ih => match aevS sl x.2 with
    | some v => match ih with
      | some vs => some ((x.1, v) :: vs)
      | none => none
    | none => none) xs
def optEvS (sl : SL) : Option Operand → Option (Option Value)
  | none => some none
  | some x => match aevS sl x with | some v => some (some v) | none => none
def callOpS (P : Program) (sl : SL) (c : Call) (args : List Value) (h : AW) : Option Res :=
  match c.callee with
  | .builtin .append => ret2 (appendB P c.argTypes args h)
  | .builtin .len => ret (match lenOpB P c.argTypes args with | some v => some v | none => lenMapB P c.argTypes args h) h
  | .builtin .min => match args with
    | v :: vs => ret (minB true v vs) h
    | [] => none
  | .builtin .max => match args with
    | v :: vs => ret (minB false v vs) h
    | [] => none
  | .builtin .copy => ret2 (copyB P c.argTypes args h)
  | .builtin .unsafeSliceData => ret (dataB args) h
  | .builtin .unsafeString => ret2 (unsafeB P c.argTypes args h)
  | .builtin .delete => ret2 (deleteB P c.argTypes args h)
  | .builtin .cap => ret (capB P c.argTypes args) h
  | .builtin .clear => ret2 (clearB P c.argTypes args h)
  | .value f => match aevS sl f with
    | some (.func (.func f) first captured) => match join args captured.toList with
      | some xs => match join first.toList xs with
        | some ys => some (.call f ys)
        | none => none
      | none => none
    | _ => none
  | .invoke r name => match aevS sl r with
    | some (.iface t x) => match methB P t x name h with
      | some (f, y) => some (.call f (y :: args))
      | none => none
    | _ => none
  | _ => none

def opS (P : Program) (sl : SL) (o : Oper) (h : AW) : Option Res :=
  match o.op with
  | .move x => ret (aevS sl x) h
  | .assign x => ret (aevS sl x) h
  | .pick c x y => match aevS sl c with
    | some (.bool true) => ret (aevS sl x) h
    | some (.bool false) => ret (aevS sl y) h
    | _ => none
  | .alloc e => match zerosB P e with
    | some cs => retRow (newCells P h e cs) ptrTo
    | none => none
  | .box e x => match aevS sl x with
    | some v => match isJ v with
      | true => none
      | false => retRow (newCells P h e v.cells.toList) ptrTo
    | none => none
  | .build t parts => match evPartsS sl parts.toList with
    | some ps => ret (buildB P t ps) h
    | none => none
  | .buildSlice t len parts => match evPartsS sl parts.toList with
    | some ps => buildSliceB P t len ps h
    | none => none
  | .load t x => match aevS sl x with
    | some v => ret (loadB P t v h) h
    | none => none
  | .store t x y => match aevS sl x, aevS sl y with
    | some p, some v => match storeB P t p v h with
      | some h' => some (.val undef h')
      | none => none
    | _, _ => none
  | .nilCheck x => match aevS sl x with
    | some (.pointer (some p)) => some (.val (.pointer (some p)) h)
    | _ => none
  | .binOp op t x y _ => match aevS sl x, aevS sl y with
    | some v, some u => match eqOk P op t x y v u with
      | true => ret (binB P op t v u h) h
      | false => none
    | _, _ => none
  | .unOp op _ x => match aevS sl x with
    | some v => ret (unB op v) h
    | none => none
  | .convert src dst x => match aevS sl x with
    | some v => ret2 (convB P src dst v h)
    | none => none
  | .makeInterface t x => match P.underlying t, aevS sl x with
    | some (.interface _), _ => none
    | some _, some v => some (.val (.iface t v) h)
    | _, _ => none
  | .makeFunc fn first captured => match plainFn fn with
    | true => match evsS sl first.toList, evsS sl captured.toList with
      | some xs, some ys => some (.val (.func fn ⟨xs⟩ ⟨ys⟩) h)
      | _, _ => none
    | false => none
  | .makeSlice t l c => match aevS sl l, aevS sl c with
    | some l, some c => makeSliceB P t l c h
    | _, _ => none
  | .slice t x lo hi mx => match aevS sl x, optEvS sl lo, optEvS sl hi, optEvS sl mx with
    | some v, some lo, some hi, some mx => ret (sliceB P t v lo hi mx h) h
    | _, _, _, _ => none
  | .fieldAddr s x f => match aevS sl x with
    | some v => ret (fieldAddrB P s v f) h
    | none => none
  | .field t x f => match P.underlying t, aevS sl x with
    | some (.struct fields), some (.agg cs) => match fields[f]? with
      | some fd => ret (partB P fd.type cs.toList fd.offset) h
      | none => none
    | _, _ => none
  | .indexAddr t x i => match aevS sl x, aevS sl i with
    | some v, some j => ret (indexAddrB P t v j) h
    | _, _ => none
  | .index t x i => match aevS sl x, aevS sl i with
    | some v, some j => ret (indexB P t v j) h
    | _, _ => none
  | .extract x i => match aevS sl x with
    | some (.tuple vs) => ret vs.toList[i]? h
    | _ => none
  | .call c => match evsS sl c.args.toList with
    | some args => callOpS P sl c args h
    | none => none
  | .sliceToArrayPointer t x => match aevS sl x with
    | some v => ret (toArrB P t v) h
    | none => none
  | .makeMap t r => match optEvS sl r with
    | some hint => match makeMapB P t hint with
      | true => retRow (h.new (.map [] 0)) fun r => .map (some r)
      | false => none
    | none => none
  | .lookup t m k ok => match aevS sl m, aevS sl k with
    | some mv, some kv => ret (lookupB P t mv kv ok h) h
    | _, _ => none
  | .mapUpdate t m k x => match aevS sl m, aevS sl k, aevS sl x with
    | some mv, some kv, some v => match mapUpdateB P t mv kv v h with
      | some h' => some (.val undef h')
      | none => none
    | _, _, _ => none
  | .insert t m k x => match aevS sl m, aevS sl k, aevS sl x with
    | some mv, some kv, some v => match mapUpdateB P t mv kv v h with
      | some h' => some (.val undef h')
      | none => none
    | _, _, _ => none
  | .range t x => match aevS sl x with
    | some v => rangeB P t v h
    | none => none
  | .entry x => match aevS sl x with
    | some v => ret (entryB v h) h
    | none => none
  | .typeAssert x _ t ok => match aevS sl x with
    | some v => ret (assertB P t ok v) h
    | none => none
  | _ => none


theorem aevS_eq (a : Slots) : aevS (fun i => a[i]?) = aev a := by funext x; cases x <;> rfl
theorem evsS_eq (a : Slots) : evsS (fun i => a[i]?) = evs a := by
  funext xs
  induction xs with
  | nil => rfl
  | cons x xs ih =>
    show (match aevS (fun i => a[i]?) x with
      | some v => match evsS (fun i => a[i]?) xs with
        | some vs => some (v :: vs)
        | none => none
      | none => none) = _
    rw [aevS_eq, ih]; rfl
theorem evPartsS_eq (a : Slots) : evPartsS (fun i => a[i]?) = evParts a := by
  funext xs
  induction xs with
  | nil => rfl
  | cons x xs ih =>
    show (match aevS (fun i => a[i]?) x.2 with
      | some v => match evPartsS (fun i => a[i]?) xs with
        | some vs => some ((x.1, v) :: vs)
        | none => none
      | none => none) = _
    rw [aevS_eq, ih]; rfl
theorem optEvS_eq (a : Slots) : optEvS (fun i => a[i]?) = optEv a := by
  funext x
  cases x with
  | none => rfl
  | some x => unfold optEvS optEv; rw [aevS_eq]; rfl
theorem callOpS_eq (P : Program) (a : Slots) : callOpS P (fun i => a[i]?) = callOpB P a := by
  funext c args h
  unfold callOpS callOpB
  rw [aevS_eq]
  rfl
theorem opS_eq (P : Program) (a : Slots) (o : Oper) (h : AW) : opS P (fun i => a[i]?) o h = opB P a o h := by
  unfold opS opB
  rw [aevS_eq, evsS_eq, evPartsS_eq, optEvS_eq, callOpS_eq]
  rfl

/-! ### Slots in a tree -/
def getS (n : Nat) (t : Tr Value) (i : Nat) : Option Value :=
  match Nat.ble (i + 1) n with
  | true => match t.get i with
    | some v => some v
    | none => some undef
  | false => none
def setS (n : Nat) (t : Tr Value) (d : Nat) (v : Value) : Option (Tr Value) :=
  match Nat.ble (d + 1) n with
  | true => t.set (d + 1) d (some v)
  | false => none
def putS (n : Nat) (t : Tr Value) (d : Option Tmp) (v : Value) : Option (Tr Value) :=
  match d with
  | some d => setS n t d v
  | none => some t
structure Agr (n : Nat) (t : Tr Value) (a : Slots) : Prop where
  len : a.length = n
  get : ∀ i, a[i]? = getS n t i
theorem Agr.fn {n : Nat} {t : Tr Value} {a : Slots} (g : Agr n t a) : (fun i => a[i]?) = getS n t := funext g.get
theorem Agr.one {n : Nat} {t : Tr Value} {a b : Slots} (g : Agr n t a) (k : Agr n t b) : a = b := List.ext_getElem? fun i => by rw [g.get, k.get]
theorem setAt_some : ∀ (a : Slots) (d : Nat) (v : Value), d < a.length → ∃ a', setAt a d v = some a'
  | [], d, v, h => by simp at h
  | x :: xs, 0, v, _ => ⟨_, rfl⟩
  | x :: xs, d + 1, v, h => by
    obtain ⟨a', e⟩ := setAt_some xs d v (by simpa using h)
    exact ⟨x :: a', by simp only [setAt, e]⟩
theorem Agr.set {n : Nat} {t t' : Tr Value} {a : Slots} {d : Nat} {v : Value} (g : Agr n t a) (e : setS n t d v = some t') : ∃ a', setAt a d v = some a' ∧ Agr n t' a' := by
  unfold setS at e
  split at e
  case h_2 => cases e
  rename_i hd
  have hd := of_ble hd
  obtain ⟨a', ea⟩ := setAt_some a d v (by rw [g.len]; omega)
  obtain ⟨h1, h2, h3⟩ := setAt_at ea
  refine ⟨a', ea, h1.trans g.len, fun i => ?_⟩
  rw [h3]
  have hg := Tr.get_set _ _ _ _ _ e i
  unfold getS
  rw [hg]
  by_cases hi : i = d
  · subst hi
    simp only [if_pos]
    rw [Nat.ble_eq_true_of_le hd]
  · rw [if_neg hi, if_neg hi, g.get]
    rfl
theorem Agr.put {n : Nat} {t t' : Tr Value} {a : Slots} {d : Option Tmp} {v : Value} (g : Agr n t a) (e : putS n t d v = some t') : ∃ a', putAt a d v = some a' ∧ Agr n t' a' := by
  cases d with
  | none => simp [putS] at e; subst e; exact ⟨a, rfl, g⟩
  | some d => exact g.set e
/-- All slots, whole. -/
def toL (n : Nat) (t : Tr Value) : Option (List Value) :=
  Nat.rec (motive := fun _ => List Value → Option (List Value)) (fun acc => some acc) (fun i ih acc => match getS n t i with
    | some v => ih (v :: acc)
    | none => none) n []
def ofL (n : Nat) (xs : List Value) (i : Nat) (t : Tr Value) : Option (Tr Value) :=
  List.rec (motive := fun _ => Nat → Tr Value → Option (Tr Value)) (fun _ t => some t) (fun x _ ih i t => match setS n t i x with
    | some t' => match fn (i + 1) with
      | some j => ih j t'
      | none => none
    | none => none) xs i t
theorem toL_spec {n : Nat} {t : Tr Value} {a : Slots} (g : Agr n t a) : toL n t = some a := by
  have key : ∀ (m : Nat) (acc : List Value), m ≤ n → Nat.rec (motive := fun _ => List Value → Option (List Value)) (fun acc => some acc) (fun i ih acc => match getS n t i with
    | some v => ih (v :: acc)
    | none => none) m acc = some (a.take m ++ acc) := by
    intro m
    induction m with
    | zero => intro acc _; show some acc = _; simp
    | succ m ih =>
      intro acc hm
      have hlt : m < a.length := by rw [g.len]; omega
      have hg : getS n t m = some a[m] := by rw [← g.get]; exact List.getElem?_eq_getElem hlt
      show (match getS n t m with
        | some v => Nat.rec (motive := fun _ => List Value → Option (List Value)) (fun acc => some acc) (fun i ih acc => match getS n t i with
          | some v => ih (v :: acc)
          | none => none) m (v :: acc)
        | none => none) = _
      rw [hg]
      simp only
      rw [ih _ (by omega)]
      have ht : a.take (m + 1) = a.take m ++ [a[m]] := by rw [List.take_add_one, List.getElem?_eq_getElem hlt]; rfl
      rw [ht, List.append_assoc]
      rfl
  have := key n [] (Nat.le_refl _)
  unfold toL
  rw [this]
  simp [← g.len]
theorem ofL_spec {n : Nat} : ∀ {xs : List Value} {i : Nat} {t t' : Tr Value}, ofL n xs i t = some t' → (∀ m, getS n t' m = if i ≤ m ∧ m < i + xs.length then xs[m - i]? else getS n t m) ∧ (xs ≠ [] → i + xs.length ≤ n)
  | [], i, t, t', e => by
    simp only [ofL, Option.some.injEq] at e
    subst e
    exact ⟨fun m => by rw [if_neg (by simp)], fun h => absurd rfl h⟩
  | x :: xs, i, t, t', e => by
    have e : (match setS n t i x with
      | some t' => match fn (i + 1) with
        | some j => ofL n xs j t'
        | none => none
      | none => none) = some t' := e
    split at e
    case h_2 => cases e
    rename_i t₁ es
    split at e
    case h_2 => cases e
    rename_i j ej
    have := fn_eq ej; subst this
    obtain ⟨h1, h2⟩ := ofL_spec e
    have hs : i + 1 ≤ n ∧ ∀ m, getS n t₁ m = if m = i then some x else getS n t m := by
      unfold setS at es
      split at es
      case h_2 => cases es
      rename_i hd
      have hd := of_ble hd
      refine ⟨hd, fun m => ?_⟩
      have hg := Tr.get_set _ _ _ _ _ es m
      unfold getS
      rw [hg]
      by_cases hm : m = i
      · subst hm; simp only [if_pos]; rw [Nat.ble_eq_true_of_le hd]
      · rw [if_neg hm, if_neg hm]
    refine ⟨fun m => ?_, fun _ => ?_⟩
    · rw [h1 m, hs.2 m]
      by_cases hm : m = i
      · subst hm
        rw [if_neg (by omega), if_pos rfl, if_pos (by simp)]
        simp
      · rw [if_neg hm]
        by_cases hc : i ≤ m ∧ m < i + (x :: xs).length
        · rw [if_pos hc, if_pos (by simp at hc; omega)]
          rw [show m - i = (m - (i + 1)) + 1 by omega]
          simp
        · rw [if_neg hc, if_neg (by simp at hc; omega)]
    · cases xs with
      | nil => simpa using hs.1
      | cons y ys => have := h2 (by simp); simp at this ⊢; omega
theorem getS_nil {n m : Nat} : getS n .nil m = if m < n then some undef else none := by
  unfold getS
  rw [Tr.get_nil_eq]
  by_cases h : m < n
  · rw [if_pos h, Nat.ble_eq_true_of_le (by omega : m + 1 ≤ n)]
  · rw [if_neg h]
    cases hb : Nat.ble (m + 1) n with
    | false => rfl
    | true => exact absurd (of_ble hb) (by omega)
theorem agr_args {n : Nat} {args : List Value} {t : Tr Value} {a : Slots} (h : args.length ≤ n) (e : ofL n args 0 .nil = some t) (ha : join args (undefs (n - args.length)) = some a) : Agr n t a := by
  have ha := join_eq ha
  subst ha
  obtain ⟨h1, _⟩ := ofL_spec e
  refine ⟨by rw [undefs_eq]; simp; omega, fun i => ?_⟩
  rw [h1 i, getS_nil]
  by_cases hi : i < args.length
  · rw [if_pos (by omega), List.getElem?_append_left hi]; simp
  · rw [if_neg (by omega), List.getElem?_append_right (by omega), undefs_eq, List.getElem?_replicate]
    by_cases hn : i < n
    · rw [if_pos (by omega), if_pos hn]
    · rw [if_neg (by omega), if_neg hn]
theorem agr_all {n : Nat} {a : Slots} {t : Tr Value} (h : a.length = n) (e : ofL n a 0 .nil = some t) : Agr n t a := by
  obtain ⟨h1, _⟩ := ofL_spec e
  refine ⟨h, fun i => ?_⟩
  rw [h1 i, getS_nil]
  by_cases hi : i < a.length
  · rw [if_pos (by omega)]; simp
  · rw [if_neg (by omega), if_neg (by omega), List.getElem?_eq_none (by omega)]
end
end Go.Am

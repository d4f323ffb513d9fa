/- Closed runs, cut: a body's first parts by a run of their own, its rows thinned, then the rest from there. -/
import Derived.Test.YtmdcfnnoeimakaaGreatDoorCg
namespace Go.Am
open Go.MapKept
set_option linter.unusedVariables false
noncomputable section

/-- The first k parts of a row of parts, and the rest. -/
def takeC : Nat → Code → List Code
  | 0, _ => []
  | k + 1, .seq x y => x :: takeC k y
  | _ + 1, _ => []
def dropC : Nat → Code → Code
  | 0, c => c
  | k + 1, .seq _ y => dropC k y
  | _ + 1, c => c
def partsF (P : Program) (xt : ExtT) (call : CallT) (yc : YieldT) (fuel n : Nat) (cs : List Code) : Tr Value → AW → Option (Tr Value × AW) :=
  List.rec (motive := fun _ => Tr Value → AW → Option (Tr Value × AW)) (fun t h => some (t, h))
    (fun c _ ih t h => match codeF P xt call yc false fuel n c t h with
      | some (.normal, t', h') => ih t' h'
      | _ => none) cs
/-- These rows alone. -/
def thinR (h : AW) (ks : List Nat) : Tr ARow → Option (Tr ARow) :=
  List.rec (motive := fun _ => Tr ARow → Option (Tr ARow)) (fun t => some t)
    (fun k _ ih t => match h.get k with
      | some row => match Tr.set 64 t k (some row) with
        | some t' => ih t'
        | none => none
      | none => none) ks
def thin (ks : List Nat) (h : AW) : Option AW :=
  match thinR h ks .nil with
  | some t => some ⟨t, h.next, h.step⟩
  | none => none
theorem thinR_sub {h : AW} : ∀ {ks : List Nat} {t t' : Tr ARow}, (∀ r row, t.get r = some row → h.get r = some row) → thinR h ks t = some t' → ∀ r row, t'.get r = some row → h.get r = some row
  | [], t, t', ht, e => by
    simp only [thinR, Option.some.injEq] at e
    subst e; exact ht
  | k :: ks, t, t', ht, e => by
    have e : (match h.get k with
      | some row => match Tr.set 64 t k (some row) with
        | some t' => thinR h ks t'
        | none => none
      | none => none) = some t' := e
    split at e
    case h_2 => cases e
    rename_i row hrow
    split at e
    case h_2 => cases e
    rename_i t₁ ht₁
    refine thinR_sub (fun r row' hr => ?_) e
    rw [Tr.get_set _ _ _ _ _ ht₁] at hr
    split at hr
    · rename_i hh
      subst hh
      rw [hrow]; exact hr
    · exact ht r row' hr
theorem thin_sub {ks : List Nat} {h h' : AW} (e : thin ks h = some h') : (∀ r row, h'.get r = some row → h.get r = some row) ∧ h'.next = h.next ∧ h'.step = h.step := by
  unfold thin at e
  split at e
  case h_2 => cases e
  rename_i t ht
  simp only [Option.some.injEq] at e
  subst e
  exact ⟨fun r row hr => thinR_sub (fun r row hr => by cases hr) ht r row hr, rfl, rfl⟩
section
variable {P : Program}
theorem HRel.thin {ρ : Env} {h h' : AW} {w : World} {ks : List Nat} (H : HRel P ρ h w) (e : Am.thin ks h = some h') : HRel P ρ h' w ∧ Turn ρ h w ρ h' w := by
  obtain ⟨sub, hn, hst⟩ := thin_sub e
  exact ⟨⟨fun m row hm => H.loc m row (sub m row hm), fun a b x y la lb ha hb => H.inj a b x y la lb (sub _ _ ha) (sub _ _ hb), by rw [hn, hst]; exact H.fresh, by rw [hst]; exact H.step⟩,
    ⟨Env.le_refl _, rfl, rfl, rfl, Nat.le_refl _, fun m row l hm ho hl _ => ⟨m, row, l, sub _ _ hm, ho, hl, rfl⟩, fun _ _ _ => rfl, fun _ _ x => .inl x, ⟨0, by rw [hn]; simp⟩, hst⟩⟩
theorem LQ.thin {rd : Option Nat} {c : Code} {a : Slots} {h h' : AW} {R : AExit → Slots → AW → Prop} {ks : List Nat} (e : Am.thin ks h = some h') (k : LQ rd P c a h' R) : LQ rd P c a h R :=
  fun n₀ ro ρ act w Q hrd hr hd H hQ => by
    obtain ⟨H', T⟩ := H.thin e
    exact k n₀ ro ρ act w Q hrd hr (hd.turn T) H' fun e a' h' ρ' act' w' kk x y z u => hQ e a' h' ρ' act' w' kk x y z (T.trans u)
theorem LQ.codeF (hg : noGo P = true) (hmix : P.follows .mixedOrders = true) {xt : ExtT} {known : Known} (hx : XSd P xt) (hk : SQ P known) {fuel depth n : Nat} {c : Code} {t t' : Tr Value} {h h' : AW} {e : AExit} {a : Slots} (g : Agr n t a)
    (er : Am.codeF P xt (goF P xt known fuel depth false) (goF P xt known fuel depth true) false fuel n c t h = some (e, t', h')) : LQ none P c a h fun x b w => x = e ∧ Agr n t' b ∧ w = h' := by
  obtain ⟨a', g', e'⟩ := codeF_sim (fun _ _ _ _ e => goF_sim e) (fun _ _ _ _ e => goF_sim e) c g er
  have s := goC_sound hg hmix hx hk fuel depth
  refine (LQ.codeC hg hmix hx s.1 s.2 (fun _ => rfl) c e').mono ?_
  rintro x b w ⟨rfl, rfl, rfl⟩
  exact ⟨rfl, g', rfl⟩
theorem LQ.parts (hg : noGo P = true) (hmix : P.follows .mixedOrders = true) {xt : ExtT} {known : Known} (hx : XSd P xt) (hk : SQ P known) {fuel depth n : Nat} {R : AExit → Slots → AW → Prop} {t' : Tr Value} {h' : AW} : ∀ {k : Nat} {c : Code} {t : Tr Value} {h : AW} {a : Slots}, Agr n t a →
    partsF P xt (goF P xt known fuel depth false) (goF P xt known fuel depth true) fuel n (takeC k c) t h = some (t', h') → (∀ b, Agr n t' b → LQ none P (dropC k c) b h' R) → LQ none P c a h R
  | 0, c, t, h, a, g, e, kk => by
    simp only [takeC, partsF, Option.some.injEq, Prod.mk.injEq] at e
    obtain ⟨rfl, rfl⟩ := e
    exact kk a g
  | k + 1, c, t, h, a, g, e, kk => by
    cases c with
    | seq x y =>
      have e : (match Am.codeF P xt (goF P xt known fuel depth false) (goF P xt known fuel depth true) false fuel n x t h with
        | some (.normal, t', h') => partsF P xt (goF P xt known fuel depth false) (goF P xt known fuel depth true) fuel n (takeC k y) t' h'
        | _ => none) = some (t', h') := e
      split at e
      case h_2 => cases e
      rename_i t₁ h₁ hc
      refine LQ.seq ((LQ.codeF hg hmix hx hk g hc).mono ?_)
      rintro x b w ⟨rfl, g₁, rfl⟩
      exact LQ.parts hg hmix hx hk g₁ e kk
    | _ =>
      simp only [takeC, partsF, Option.some.injEq, Prod.mk.injEq] at e
      obtain ⟨rfl, rfl⟩ := e
      exact kk a g
/-- One piece: k parts run from here, the rows thinned. -/
def cutF (P : Program) (xt : ExtT) (known : Known) (fuel depth n k : Nat) (ks : List Nat) (c : Code) (s : Tr Value × AW) : Option (Tr Value × AW) :=
  match partsF P xt (goF P xt known fuel depth false) (goF P xt known fuel depth true) fuel n (takeC k c) s.1 s.2 with
  | some (t, h) => match thin ks h with
    | some h' => some (t, h')
    | none => none
  | none => none
theorem LQ.cut (hg : noGo P = true) (hmix : P.follows .mixedOrders = true) {xt : ExtT} {known : Known} (hx : XSd P xt) (hk : SQ P known) {fuel depth n k : Nat} {ks : List Nat} {c : Code} {s s' : Tr Value × AW} {R : AExit → Slots → AW → Prop} {a : Slots}
    (e : cutF P xt known fuel depth n k ks c s = some s') (g : Agr n s.1 a) (kk : ∀ b, Agr n s'.1 b → LQ none P (dropC k c) b s'.2 R) : LQ none P c a s.2 R := by
  unfold cutF at e
  split at e
  case h_2 => cases e
  rename_i t h hp
  split at e
  case h_2 => cases e
  rename_i h' ht
  simp only [Option.some.injEq] at e
  subst e
  exact LQ.parts hg hmix hx hk g hp fun b g' => LQ.thin ht (kk b g')
/-- The last piece: the results are one true. -/
def endF (P : Program) (xt : ExtT) (known : Known) (fuel depth n : Nat) (rs : List ResultVar) (c : Code) (s : Tr Value × AW) : Bool :=
  match codeF P xt (goF P xt known fuel depth false) (goF P xt known fuel depth true) false fuel n c s.1 s.2 with
  | some (.ret, t, h) => match resultsS P (getS n t) h rs with
    | some [.bool b] => b
    | _ => false
  | _ => false
theorem LQ.endF (hg : noGo P = true) (hmix : P.follows .mixedOrders = true) {xt : ExtT} {known : Known} (hx : XSd P xt) (hk : SQ P known) {fuel depth n : Nat} {rs : List ResultVar} {c : Code} {s : Tr Value × AW} {a : Slots}
    (e : Am.endF P xt known fuel depth n rs c s = true) (g : Agr n s.1 a) : LQ none P c a s.2 (Told P rs fun v _ => v = .bool true ∧ Am.plain v = true) := by
  unfold Am.endF at e
  split at e
  case h_2 => cases e
  rename_i t h hc
  refine (LQ.codeF hg hmix hx hk g hc).mono ?_
  rintro x b w ⟨rfl, g', rfl⟩
  split at e
  case h_2 => cases e
  rename_i b' hr
  subst e
  rw [← g'.fn, resultsS_eq] at hr
  exact ⟨_, hr, rfl, rfl⟩
/-- A law without arguments, by pieces. -/
theorem CS.pieces {f : FuncId} {fn : Func} {c : Code} {L : RL} (hf : P.funcs[f]? = some fn) (hb : fn.body = some c) (k : ∀ a, Agr fn.ntmps .nil a → LQ none P c a AW.empty (Told P fn.results.toList fun v _ => v = .bool true ∧ Am.plain v = true)) : CS P f [] L fun v L' => v = .bool true ∧ L' = L := by
  intro h H
  obtain ⟨a, ha⟩ := join_some [] (undefs (fn.ntmps - 0))
  have g : Agr fn.ntmps .nil a := agr_args (args := []) (Nat.zero_le _) rfl ha
  refine (CQ.still0 (R := fun v => v = .bool true) ((CQ.mk hf hb rfl ha (k a g))) rfl h).mono ?_
  rintro v g ⟨rfl, rfl⟩
  exact ⟨L, ⟨rfl, rfl⟩, H⟩
/-- One round of a loop, its rows thinned; the round that leaves. -/
def rndF (P : Program) (xt : ExtT) (known : Known) (fuel depth n : Nat) (ks : List Nat) (x : Code) (s : Tr Value × AW) : Option (Tr Value × AW) :=
  match codeF P xt (goF P xt known fuel depth false) (goF P xt known fuel depth true) false fuel n x s.1 s.2 with
  | some (.normal, t, h) => match thin ks h with
    | some h' => some (t, h')
    | none => none
  | _ => none
def extF (P : Program) (xt : ExtT) (known : Known) (fuel depth n : Nat) (ks : List Nat) (id : Nat) (x : Code) (s : Tr Value × AW) : Option (Tr Value × AW) :=
  match codeF P xt (goF P xt known fuel depth false) (goF P xt known fuel depth true) false fuel n x s.1 s.2 with
  | some (.exit id', t, h) => match Nat.beq id' id, thin ks h with
    | true, some h' => some (t, h')
    | _, _ => none
  | _ => none
theorem LQ.rnd (hg : noGo P = true) (hmix : P.follows .mixedOrders = true) {xt : ExtT} {known : Known} (hx : XSd P xt) (hk : SQ P known) {fuel depth n : Nat} {ks : List Nat} {x : Code} {s s' : Tr Value × AW} {R : AExit → Slots → AW → Prop} {a : Slots}
    (e : rndF P xt known fuel depth n ks x s = some s') (g : Agr n s.1 a) (kk : ∀ b w, Agr n s'.1 b → Am.thin ks w = some s'.2 → R .normal b w) : LQ none P x a s.2 R := by
  unfold rndF at e
  split at e
  case h_2 => cases e
  rename_i t h hp
  split at e
  case h_2 => cases e
  rename_i h' ht
  simp only [Option.some.injEq] at e
  subst e
  refine (LQ.codeF hg hmix hx hk g hp).mono ?_
  rintro y b w ⟨rfl, g', rfl⟩
  exact kk b w g' ht
theorem LQ.ext1 (hg : noGo P = true) (hmix : P.follows .mixedOrders = true) {xt : ExtT} {known : Known} (hx : XSd P xt) (hk : SQ P known) {fuel depth n id : Nat} {ks : List Nat} {x : Code} {s s' : Tr Value × AW} {R : AExit → Slots → AW → Prop} {a : Slots}
    (e : extF P xt known fuel depth n ks id x s = some s') (g : Agr n s.1 a) (kk : ∀ b w, Agr n s'.1 b → Am.thin ks w = some s'.2 → R (.exit id) b w) : LQ none P x a s.2 R := by
  unfold extF at e
  split at e
  case h_2 => cases e
  rename_i id' t h hp
  split at e
  case h_2 => cases e
  rename_i h' hb ht
  simp only [Option.some.injEq] at e
  subst e
  have hid := of_beq hb
  subst hid
  refine (LQ.codeF hg hmix hx hk g hp).mono ?_
  rintro y b w ⟨rfl, g', rfl⟩
  exact kk b w g' ht
/-- A loop of two rounds, and out. -/
theorem LQ.twice (hg : noGo P = true) (hmix : P.follows .mixedOrders = true) {xt : ExtT} {known : Known} (hx : XSd P xt) (hk : SQ P known) {fuel depth n id : Nat} {k1 k2 k3 : List Nat} {x : Code} {s s1 s2 s3 : Tr Value × AW} {R : AExit → Slots → AW → Prop} {a : Slots}
    (e1 : rndF P xt known fuel depth n k1 x s = some s1) (e2 : rndF P xt known fuel depth n k2 x s1 = some s2) (e3 : extF P xt known fuel depth n k3 id x s2 = some s3) (g : Agr n s.1 a) (kk : ∀ b w, Agr n s3.1 b → Am.thin k3 w = some s3.2 → R .normal b w) : LQ none P (.block id (.loop x)) a s.2 R := by
  refine LQ.block (LQ.loop (fun m b w => match m with
    | 2 => Agr n s.1 b ∧ w = s.2
    | 1 => Agr n s1.1 b ∧ Am.thin k1 w = some s1.2
    | 0 => Agr n s2.1 b ∧ Am.thin k2 w = some s2.2
    | _ => False) (n := 2) ⟨g, rfl⟩ ?_)
  intro m b w i
  match m, i with
  | 2, i =>
    obtain ⟨gb, rfl⟩ := i
    exact LQ.rnd hg hmix hx hk e1 gb fun b w g' ht => ⟨1, by decide, g', ht⟩
  | 1, i =>
    exact LQ.thin i.2 (LQ.rnd hg hmix hx hk e2 i.1 fun b w g' ht => ⟨0, by decide, g', ht⟩)
  | 0, i =>
    refine LQ.thin i.2 (LQ.ext1 hg hmix hx hk e3 i.1 fun b w g' ht => ?_)
    show Within id R (.exit id) b w
    simp only [Within, if_pos]
    exact kk b w g' ht
/-- A part, then such a loop, then the rest. -/
theorem LQ.cutTwice (hg : noGo P = true) (hmix : P.follows .mixedOrders = true) {xt : ExtT} {known : Known} (hx : XSd P xt) (hk : SQ P known) {fuel depth n id : Nat} {k0 k1 k2 k3 : List Nat} {y x z : Code} {s' s s1 s2 s3 : Tr Value × AW} {R : AExit → Slots → AW → Prop} {a : Slots}
    (e0 : rndF P xt known fuel depth n k0 y s' = some s) (e1 : rndF P xt known fuel depth n k1 x s = some s1) (e2 : rndF P xt known fuel depth n k2 x s1 = some s2) (e3 : extF P xt known fuel depth n k3 id x s2 = some s3) (g : Agr n s'.1 a) (kk : ∀ b, Agr n s3.1 b → LQ none P z b s3.2 R) : LQ none P (.seq (.seq y (.block id (.loop x))) z) a s'.2 R :=
  LQ.seq (LQ.seq (LQ.rnd hg hmix hx hk e0 g fun b w g' ht => LQ.thin ht (LQ.twice hg hmix hx hk e1 e2 e3 g' fun b w g' ht => LQ.thin ht (kk b g'))))
end
end
end Go.Am

/- Closed runs: what the model stands in for, what is known by its contract. -/
import Derived.Test.YtmdcfnnoeimakaaGreatDoorCh
import Derived.Test.YtmdcfnnoeimakaaGreatDoorRs
import Derived.Test.YtmdcfnnoeimakaaGreatDoorWg
import Derived.Lib.Bytealg
import Derived.Lib.Join
namespace Go.Am
set_option linter.unusedVariables false
theorem CQ.of_callsA {P : Program} {f : FuncId} {args : List Value} {h : AW} {v : Value} (hf : ∃ fn c, P.funcs[f]? = some fn ∧ fn.body = some c)
    (hc : ∀ (ρ : Env) us w, LRel ρ args us → HRel P ρ h w → Calls P f ⟨us⟩ w fun e w' => ∃ u, e = .returned u ∧ VRel ρ v u ∧ Go.RowKit.Below w.heap.size w w') : CQ P f args h fun u g => u = v ∧ g = h := by
  refine ⟨hf, fun ρ us w hus HR => ?_⟩
  refine (hc ρ us w hus HR).mono ?_
  rintro e w' ⟨u, rfl, hv, B⟩
  refine ⟨v, h, u, ρ, rfl, ⟨rfl, rfl⟩, hv, ⟨fun r row hr => ?_, HR.inj, HR.fresh, HR.step⟩, ⟨Env.le_refl _, B.os, B.tape, B.output, B.size, fun r row l hr ho hl _ => ⟨r, row, l, hr, ho, hl, rfl⟩, fun k hk _ => B.block k hk, fun _ _ e => .inl e, ⟨0, by simp⟩, rfl⟩⟩
  obtain ⟨l, hl, hr'⟩ := HR.loc r row hr
  exact ⟨l, hl, hr'.keep (Env.le_refl _) (B.block _ hr'.lt)⟩
def textsOf : List Value → Option (List (List UInt8))
  | [] => some []
  | .string s :: vs => match textsOf vs with
    | some ts => some (s.data.toList :: ts)
    | none => none
  | _ => none
def joinB : List (List UInt8) → Option (List UInt8)
  | [] => some []
  | [s] => some s
  | s :: ss => match joinB ss with
    | some t => join s (32 :: t)
    | none => none
theorem joinB_eq : ∀ {A : List (List UInt8)} {t : List UInt8}, joinB A = some t → t = Lib.join A [32]
  | [], t, h => by simp [joinB] at h; subst h; rfl
  | [s], t, h => by simp [joinB] at h; subst h; simp [Lib.join]
  | s :: b :: ss, t, h => by
    simp only [joinB] at h
    split at h
    case h_2 => cases h
    rename_i u hu
    have := joinB_eq (A := b :: ss) hu
    have := join_eq h
    subst_vars
    simp [Lib.join, List.intercalate, List.intersperse]
def idxB (c : UInt8) : List UInt8 → Nat → Option Int
  | [], _ => some (-1)
  | b :: bs, i => match Nat.beq b.toNat c.toNat with
    | true => some (.ofNat i)
    | false => idxB c bs (i + 1)
theorem idxB_eq (c : UInt8) : ∀ (s : List UInt8) (i : Nat), idxB c s i = some (if Lib.indexByte s c = -1 then -1 else Lib.indexByte s c + i)
  | [], i => rfl
  | b :: s, i => by
    simp only [idxB]
    by_cases h : b = c
    · subst h
      rw [Nat.beq_refl]
      simp [Lib.indexByte]
    · have hn : Nat.beq b.toNat c.toNat = false := beq_false fun hh => h (UInt8.toNat_inj.1 hh)
      have hb : (b == c) = false := by simpa using h
      rw [hn]
      simp only
      rw [idxB_eq c s (i + 1)]
      simp only [Lib.indexByte, hb]
      by_cases hm : Lib.indexByte s c = -1
      · simp [hm]
      · have hge : 0 ≤ Lib.indexByte s c := by
          have := Lib.indexByte_ge s c
          omega
        have : ¬ (Lib.indexByte s c + 1 = -1) := by omega
        simp [hm, this]
        omega
end Go.Am
namespace Go.Proofs.YtmdcfnnoeimakaaGreatDoor
open Go.Am
set_option linter.unusedVariables false
set_option maxRecDepth 20000
noncomputable section
/-- The functions that the model stands in for. -/
def xtP : ExtT := fun f args h =>
  match Nat.beq f 59 with
  | true => match args with
    | [v] => some (v, h)
    | _ => none
  | false => match Nat.beq f 73 with
    | true => match args with
      | [.string s, .int .u8 (.ofNat c)] => match Nat.ble c 255, idxB (UInt8.ofNat c) s.data.toList 0 with
        | true, some n => match fi n with
          | some n => some (.int .i64 n, h)
          | none => none
        | _, _ => none
      | _ => none
    | false => match Nat.beq f 68 with
      | true => match args with
        | [.iface t (.map (some r))] => match h.get r with
          | some (.map es clock) => match h.new (.map es clock) with
            | some (r', h') => some (.iface t (.map (some r')), h')
            | none => none
          | _ => none
        | _ => none
      | false => none
theorem xtP_sound : XSd Tryz.prog xtP := by
  intro f args h v h' e
  unfold xtP at e
  split at e
  · rename_i hf
    have hf := of_beq hf; subst hf
    split at e
    case h_2 => cases e
    simp only [Option.some.injEq, Prod.mk.injEq] at e
    obtain ⟨rfl, rfl⟩ := e
    exact XQ.of_ext (noEscape_ext _)
  · split at e
    · rename_i hf
      have hf := of_beq hf; subst hf
      split at e
      case h_2 => cases e
      rename_i s c
      split at e
      case h_2 => cases e
      rename_i n hc hn
      have hc := of_ble hc
      split at e
      case h_2 => cases e
      rename_i n' hn'
      have := fi_eq hn'; subst this
      simp only [Option.some.injEq, Prod.mk.injEq] at e
      obtain ⟨rfl, rfl⟩ := e
      rw [idxB_eq] at hn
      simp only [Option.some.injEq] at hn
      have hx := index_ext s.data.toList (UInt8.ofNat c)
      have hcc : ((UInt8.ofNat c).toNat : Nat) = c := by simp; omega
      rw [hcc] at hx
      have he : Lib.indexByte s.data.toList (UInt8.ofNat c) = n' := by
        split at hn <;> omega
      rw [he] at hx
      exact XQ.of_ext hx
    · split at e
      case h_2 => cases e
      rename_i hf
      have hf := of_beq hf; subst hf
      split at e
      case h_2 => cases e
      rename_i t r
      split at e
      case h_2 => cases e
      rename_i es clock hg
      split at e
      case h_2 => cases e
      rename_i r' h₁ hn
      simp only [Option.some.injEq, Prod.mk.injEq] at e
      obtain ⟨rfl, rfl⟩ := e
      exact XQ.mapsClone (fn := Tryz.f68) rfl (by kernel_rfl) (by kernel_rfl) (by kernel_rfl) (by kernel_rfl) hg hn
theorem textsOf_eq : ∀ {cs : List Value} {A : List (List UInt8)}, textsOf cs = some A → cs = strs A
  | [], A, h => by simp [textsOf] at h; subst h; rfl
  | c :: cs, A, h => by
    cases c with
    | string s =>
      simp only [textsOf] at h
      split at h
      case h_2 => cases h
      rename_i ts ht
      simp only [Option.some.injEq] at h
      subst h
      rw [textsOf_eq ht]
      rfl
    | _ => simp [textsOf] at h
/-- Texts, joined by a blank. -/
theorem JoinQ {h : AW} {r off n cap : Nat} {cs₀ cs : List Value} {A : List (List UInt8)} (hrow : readRow h r = some cs₀) (hcut : cut cs₀ off n = some cs) (hcs : cs = strs A) (hp : 1 ≤ n) (hl : n ≤ 1000000) (hj : (Lib.join A [32]).length ≤ 1000000) :
    CQ Tryz.prog 129 [.slice (some ⟨r, off, none⟩) n cap, .string ⟨⟨[32]⟩⟩] h fun u g => u = .string ⟨⟨Lib.join A [32]⟩⟩ ∧ g = h := by
  obtain ⟨hcs1, hle, _, _⟩ := cut_eq hcut
  have hn : A.length = n := by
    have := congrArg List.length hcs
    have h2 := congrArg List.length hcs1
    simp [strs] at this h2
    omega
  subst hcs
  refine CQ.of_callsA ⟨_, _, rfl, rfl⟩ fun ρ us w hus HR => ?_
  cases hus with
  | cons h1 h2 =>
  cases h2 with
  | cons h2 h3 =>
  cases h3
  cases h2
  cases h1 with
  | @slice _ _ _ _ cap' a hl' hc' ha =>
  obtain ⟨l, hlr, rfl, _⟩ := ha (by omega)
  obtain ⟨l2, hl2, hrd⟩ := HR.at_read hrow
  rw [hlr] at hl2; simp only [Option.some.injEq] at hl2; subst hl2
  have hcell : ∀ (j : Nat) x, (A.map fun s => (⟨⟨s⟩⟩ : ByteArray))[j]? = some x → w.cell? ⟨l.block, l.base + off + j, none⟩ = some (.string x) := by
    intro j x hx
    have hx' : (strs A)[j]? = some (.string x) := by
      rw [List.getElem?_map] at hx
      cases hA' : A[j]? with
      | none => rw [hA'] at hx; cases hx
      | some s => rw [hA'] at hx; simp only [Option.map_some, Option.some.injEq] at hx; subst hx; simp [strs, hA']
    have h0 : cs₀[off + j]? = some (.string x) := by
      rw [hcs1, List.getElem?_take, List.getElem?_drop] at hx'
      split at hx'
      · exact hx'
      · cases hx'
    obtain ⟨u, hu, hv⟩ := hrd _ _ h0
    cases hv
    rw [← hu]; congr 2; omega
  have hmap : (A.map fun s => (⟨⟨s⟩⟩ : ByteArray)).map (·.data.toList) = A := by rw [List.map_map]; simp [Function.comp_def]
  have hlen : (A.map fun s => (⟨⟨s⟩⟩ : ByteArray)).length = A.length := List.length_map ..
  have hblk : l.block < w.heap.size := by
    cases hA0 : A with
    | nil => rw [hA0] at hn; simp at hn; omega
    | cons s A' =>
      have := hcell 0 ⟨⟨s⟩⟩ (by rw [hA0]; rfl)
      rcases Nat.lt_or_ge l.block w.heap.size with hh | hh
      · exact hh
      · simp [World.cell?, Array.getElem?_eq_none hh] at this
  have key := Tryz.strings_Join l.block (l.base + off) cap' (A.map fun s => (⟨⟨s⟩⟩ : ByteArray)) ⟨⟨[32]⟩⟩ w hcell hblk (by omega) (by omega) (by rw [hmap]; show (Lib.join A [32]).length ≤ _; omega)
  rw [hmap, hlen, hn] at key
  exact key.mono fun e w' ⟨he, hB⟩ => ⟨_, he, .string _, hB⟩
/-- What is known by its contract. -/
def knownP : Known := fun f args h =>
  match Nat.beq f 129 with
  | true => match args with
    | [.slice (some ⟨r, off, none⟩) n _, .string ⟨⟨[32]⟩⟩] => match readRow h r, Nat.ble 1 n && Nat.ble n 1000000 with
      | some cs₀, true => match cut cs₀ off n with
        | some cs => match textsOf cs with
          | some A => match joinB A with
            | some t => match Nat.ble t.length 1000000 with
              | true => some (.string ⟨⟨t⟩⟩, h)
              | false => none
            | none => none
          | none => none
        | none => none
      | _, _ => none
    | _ => none
  | false => none
theorem knownP_sound : SQ Tryz.prog knownP := by
  intro f args h v h' e
  unfold knownP at e
  split at e
  case h_2 => cases e
  rename_i hf
  have hf := of_beq hf; subst hf
  split at e
  case h_2 => cases e
  rename_i r off n cap
  split at e
  case h_2 => cases e
  rename_i cs₀ hrow hn
  simp only [Bool.and_eq_true] at hn
  split at e
  case h_2 => cases e
  rename_i cs hcut
  split at e
  case h_2 => cases e
  rename_i A hA
  split at e
  case h_2 => cases e
  rename_i t ht
  split at e
  case h_2 => cases e
  rename_i hl
  have := joinB_eq ht
  subst this
  simp only [Option.some.injEq, Prod.mk.injEq] at e
  obtain ⟨rfl, rfl⟩ := e
  exact JoinQ hrow hcut (textsOf_eq hA) (of_ble hn.1) (of_ble hn.2) (of_ble hl)
end
end Go.Proofs.YtmdcfnnoeimakaaGreatDoor

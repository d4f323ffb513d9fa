/- Layer 11: how a condition lies in memory; term, part, condition. -/
import Derived.Test.YtdacddkelagdnaaEc
namespace Go.Proofs.Ytdacddkelagdnaa
open Go.Am
set_option linter.unusedVariables false
set_option maxRecDepth 20000
set_option maxHeartbeats 4000000
attribute [local irreducible] OS LSr ODS CS

/-- These cells are this tree. -/
def Rep (L : RL) : Md → X → List Value → Prop
  | .t, .cmp l o r, cs => cs = [.iface 66 (cmpV l o r)]
  | .t, .neg x, cs => ∃ d y, cs = [.iface 63 (.agg #[.iface d y])] ∧ Rep L .t x [.iface d y]
  | .t, .par c, cs => ∃ A n cp ts, cs = [.iface 48 (.slice A n cp)] ∧ SV 1 L (.slice A n cp) n ts ∧ Rep L .c c ts
  | .p, .nil, cs => cs = []
  | .p, .cons t p, cs => ∃ d y ds, cs = .iface d y :: ds ∧ Rep L .t t [.iface d y] ∧ Rep L .p p ds
  | .c, .nil, cs => cs = []
  | .c, .cons p c, cs => ∃ A n cp ts ds, cs = .slice A n cp :: ds ∧ SV 1 L (.slice A n cp) n ts ∧ Rep L .p p ts ∧ Rep L .c c ds
  | _, _, _ => False
theorem Rep.mono {L M : RL} (hm : ∀ p, p ∈ L → p ∈ M) : ∀ {m : Md} {x : X} {cs : List Value}, Rep L m x cs → Rep M m x cs
  | .t, .cmp l o r, cs, h => h
  | .t, .neg x, cs, ⟨d, y, h1, h2⟩ => ⟨d, y, h1, h2.mono hm⟩
  | .t, .par c, cs, ⟨A, n, cp, ts, h1, h2, h3⟩ => ⟨A, n, cp, ts, h1, h2.mono hm, h3.mono hm⟩
  | .p, .nil, cs, h => h
  | .p, .cons t p, cs, ⟨d, y, ds, h1, h2, h3⟩ => ⟨d, y, ds, h1, h2.mono hm, h3.mono hm⟩
  | .c, .nil, cs, h => h
  | .c, .cons p c, cs, ⟨A, n, cp, ts, ds, h1, h2, h3, h4⟩ => ⟨A, n, cp, ts, ds, h1, h2.mono hm, h3.mono hm, h4.mono hm⟩
  | .p, .cmp _ _ _, _, h => h.elim
  | .p, .neg _, _, h => h.elim
  | .p, .par _, _, h => h.elim
  | .c, .cmp _ _ _, _, h => h.elim
  | .c, .neg _, _, h => h.elim
  | .c, .par _, _, h => h.elim
  | .t, .nil, _, h => h.elim
  | .t, .cons _ _, _, h => h.elim
/-- A value that is this tree. -/
def Vm (L : RL) : Md → Value → X → Prop
  | .t, u, x => ∃ d y, u = .iface d y ∧ Rep L .t x [u]
  | m, u, x => ∃ A n cp ts, u = .slice A n cp ∧ SV 1 L u n ts ∧ Rep L m x ts
theorem Vm.mono {L M : RL} (hm : ∀ p, p ∈ L → p ∈ M) : ∀ {m : Md} {u : Value} {x : X}, Vm L m u x → Vm M m u x
  | .t, u, x, ⟨d, y, h1, h2⟩ => ⟨d, y, h1, h2.mono hm⟩
  | .p, u, x, ⟨A, n, cp, ts, h1, h2, h3⟩ => ⟨A, n, cp, ts, h1, h2.mono hm, h3.mono hm⟩
  | .c, u, x, ⟨A, n, cp, ts, h1, h2, h3⟩ => ⟨A, n, cp, ts, h1, h2.mono hm, h3.mono hm⟩
/-- Values that are these trees, one by one. -/
def Els (L : RL) (m : Md) : List X → List Value → Prop
  | [], ts => ts = []
  | x :: xs, ts => ∃ u us, ts = u :: us ∧ Vm L m u x ∧ Els L m xs us
theorem Els.mono {L M : RL} (hm : ∀ p, p ∈ L → p ∈ M) {m : Md} : ∀ {xs : List X} {ts : List Value}, Els L m xs ts → Els M m xs ts
  | [], _, h => h
  | x :: xs, _, ⟨u, us, h1, h2, h3⟩ => ⟨u, us, h1, h2.mono hm, h3.mono hm⟩
theorem Els.snoc {L : RL} {m : Md} {u : Value} {x : X} (hu : Vm L m u x) : ∀ {xs : List X} {ts : List Value}, Els L m xs ts → Els L m (xs ++ [x]) (ts ++ [u])
  | [], _, h => by
    have : _ = [] := h
    subst this
    exact ⟨u, [], rfl, hu, rfl⟩
  | y :: xs, _, ⟨w, us, h1, h2, h3⟩ => by
    subst h1
    exact ⟨w, us ++ [u], rfl, h2, h3.snoc hu⟩
theorem Els.len {L : RL} {m : Md} : ∀ {xs : List X} {ts : List Value}, Els L m xs ts → ts.length = xs.length
  | [], _, h => by
    have : _ = [] := h
    subst this; rfl
  | y :: xs, _, ⟨w, us, h1, h2, h3⟩ => by
    subst h1
    simp [h3.len]
def gl (acc : List X) (p : X) : X := acc.foldr .cons p
def Rs.gl (acc : List X) : Rs → Rs
  | .err e => .err e
  | .ok x r => .ok (Go.Proofs.Ytdacddkelagdnaa.gl acc x) r
theorem gl_snoc (acc : List X) (x p : X) : gl acc (.cons x p) = gl (acc ++ [x]) p := by simp [gl]
theorem Els.p {L : RL} : ∀ {xs : List X} {ts : List Value}, Els L .t xs ts → Rep L .p (gl xs .nil) ts
  | [], _, h => h
  | x :: xs, _, ⟨u, us, h1, ⟨d, y, h2, h2'⟩, h3⟩ => by
    subst h1; subst h2
    exact ⟨d, y, us, rfl, h2', h3.p⟩
theorem Els.c {L : RL} : ∀ {xs : List X} {ts : List Value}, Els L .p xs ts → Rep L .c (gl xs .nil) ts
  | [], _, h => h
  | x :: xs, _, ⟨u, us, h1, ⟨A, n, cp, ts, h2, h2', h2''⟩, h3⟩ => by
    subst h1; subst h2
    exact ⟨A, n, cp, ts, us, rfl, h2', h2'', h3.c⟩
/-- What a call of the parser comes to. -/
def PostM (m : Md) (G : RL) (rp d : Nat) (F : RL) : Rs → Value → RL → Prop
  | .err e, v, L' => ∃ u s' Y, v = .tuple #[u, .int .i64 (e : Nat)] ∧ (e = 4 ∨ e = 65) ∧ L' = (rp, PRow s' d) :: (Y ++ F)
  | .ok x r, v, L' => ∃ u s' Y, v = .tuple #[u, .int .i64 0] ∧ L' = (rp, PRow s' d) :: (Y ++ F) ∧ Wd G s' r ∧ Vm Y m u x
/-- The contract of term, part, condition, over at most so many words. -/
def Ct (f : FuncId) (m : Md) (N : Nat) : Prop := ∀ (rp d k : Nat) (s : Value) (w : List W) (G F : RL), w.length ≤ N → N ≤ 1000000 → Wd G s w → (∀ p, p ∈ G → p ∈ F) → d ≤ 64 → fuel m w ≤ k →
  CS Try.prog f [ptr rp] ((rp, PRow s d) :: F) (PostM m G rp d F (pr k m d w))
theorem within_ct {f : FuncId} {rp d : Nat} {s : Value} {G F : RL} {res : Rs} (hd : d ≤ 64) (hin : d < 64 → CS Try.prog f [ptr rp] ((rp, PRow s (d + 1)) :: F) (PostM .t G rp (d + 1) F res)) :
    CS Try.prog 50 [ptr rp, .func (.func f) #[ptr rp] #[]] ((rp, PRow s d) :: F) (PostM .t G rp d F (if d = 64 then .err 65 else res)) := by
  refine CS.mk (fn := Try.f50) rfl rfl rfl rfl ?_
  by_cases h : d = 64
  · subst h
    rw [if_pos rfl]
    refine yG ?_
    exact ⟨_, s, [], rfl, .inr rfl, rfl⟩
  rw [if_neg h]
  have hb : ieqB ((d : Nat) : Int) 64 = false := by rw [ieqB_eq]; simp; omega
  refine yG ?_
  refine OS.call noGo rfl (fun _ => rfl) ((hin (by omega)).mono ?_)
  cases res with
  | err e =>
    rintro v L' ⟨u, s', Y, rfl, he, rfl⟩
    refine yG ?_
    exact ⟨u, s', Y, rfl, he, rfl⟩
  | ok x r =>
    rintro v L' ⟨u, s', Y, rfl, rfl, hw, hv⟩
    refine yG ?_
    exact ⟨u, s', Y, rfl, rfl, hw, hv⟩
end Go.Proofs.Ytdacddkelagdnaa

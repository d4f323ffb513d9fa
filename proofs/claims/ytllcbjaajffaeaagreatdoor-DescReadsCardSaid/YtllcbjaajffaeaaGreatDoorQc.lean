import Derived.Test.YtllcbjaajffaeaaGreatDoorQa
import Derived.Test.YtllcbjaajffaeaaGreatDoorRtM
namespace Go.Proofs.YtllcbjaajffaeaaGreatDoor
set_option linter.unusedSimpArgs false
open Go.Am Go.Pd
set_option linter.unusedVariables false
set_option maxRecDepth 20000
set_option maxHeartbeats 4000000
attribute [local irreducible] OS LSr ODS CS YS
def AxOk (l : List It) : Prop := ∀ x, x ∈ l → x.word = kAxis → x.args ≠ []
section
variable {L : RL}
theorem onceW_cases (w : W) :
    (once w = false ∧ (!bytesEq w [119, 104, 101, 110]) = true ∧ (!bytesEq w [116, 114, 105, 101, 115]) = true ∧ (!bytesEq w [108, 105, 109, 105, 116]) = true ∧ (!bytesEq w [109, 97, 110, 117, 97, 108]) = true ∧ (!bytesEq w [97, 120, 105, 115]) = true) ∨
    (once w = true ∧ ((!bytesEq w [119, 104, 101, 110]) = false ∨ ((!bytesEq w [119, 104, 101, 110]) = true ∧ (!bytesEq w [116, 114, 105, 101, 115]) = false) ∨ ((!bytesEq w [119, 104, 101, 110]) = true ∧ (!bytesEq w [116, 114, 105, 101, 115]) = true ∧ (!bytesEq w [108, 105, 109, 105, 116]) = false) ∨ ((!bytesEq w [119, 104, 101, 110]) = true ∧ (!bytesEq w [116, 114, 105, 101, 115]) = true ∧ (!bytesEq w [108, 105, 109, 105, 116]) = true ∧ (!bytesEq w [109, 97, 110, 117, 97, 108]) = false) ∨ ((!bytesEq w [119, 104, 101, 110]) = true ∧ (!bytesEq w [116, 114, 105, 101, 115]) = true ∧ (!bytesEq w [108, 105, 109, 105, 116]) = true ∧ (!bytesEq w [109, 97, 110, 117, 97, 108]) = true ∧ (!bytesEq w [97, 120, 105, 115]) = false))) := by
  have e : once w = (bytesEq w [119, 104, 101, 110] || (bytesEq w [116, 114, 105, 101, 115] || (bytesEq w [108, 105, 109, 105, 116] || (bytesEq w [109, 97, 110, 117, 97, 108] || bytesEq w [97, 120, 105, 115])))) := by
    simp only [beq_bytes, once, kWhen, kTries, kLimit, kManual, kAxis]
    rw [Bool.eq_iff_iff]
    simp only [Bool.or_eq_true, decide_eq_true_eq]
    exact decide_eq_true_iff
  rw [e]
  generalize bytesEq w [119, 104, 101, 110] = a
  generalize bytesEq w [116, 114, 105, 101, 115] = b
  generalize bytesEq w [108, 105, 109, 105, 116] = c
  generalize bytesEq w [109, 97, 110, 117, 97, 108] = d
  generalize bytesEq w [97, 120, 105, 115] = f
  cases a <;> cases b <;> cases c <;> cases d <;> cases f <;> simp
theorem any_stop {A : Type} {p : A → Bool} {l : List A} {j : Nat} {x : A} (hx : l[j]? = some x) (hp : p x = true) : l.any p = true := List.any_eq_true.2 ⟨x, List.mem_of_getElem? hx, hp⟩
theorem any_step {A : Type} {p : A → Bool} {l : List A} {j : Nat} {x : A} (hx : l[j]? = some x) (h : (l.take j).any p = false) (hp : p x = false) : (l.take (j + 1)).any p = false := by
  rw [Go.Pd.take_one hx, List.any_append, h]; simp [hp]
theorem twice_ct {M : RL} {w : W} {a : List W} {l : List It} {lv av : Value} {cs : List Value} (hl : SV 3 M lv l.length cs) (hI : ItsR M l cs) (hM : ∀ p, p ∈ M → p ∈ L) (hv : Wd L av a) (hn : l.length ≤ 1000) (hx : AxOk l) (ha : w = kAxis → a ≠ []) : CS Tryz.prog 77 [lv, str w, av] L fun v L' => v = .bool (Pd.twice l w a) ∧ L' = L := by
  obtain ⟨avA, avc, rfl⟩ := hv.form
  obtain ⟨lA, lc, rfl⟩ := hl.form
  have hs := hv.sv
  have hlL := hl.up hM
  unfold Pd.twice
  refine CS.mk (fn := Tryz.f77) rfl rfl rfl rfl ?_
  rcases onceW_cases w with ⟨ho, h1, h2, h3, h4, h5⟩ | ⟨ho, h⟩
  · rw [ho]
    refine yG ?_
    exact ⟨rfl, rfl⟩
  rw [ho, Bool.true_and]
  generalize hp : (fun x : It => decide (x.word = w) && (!decide (w = kAxis) || decide (x.args.head? = a.head?))) = p
  rcases h with h1 | ⟨h1, h2⟩ | ⟨h1, h2, h3⟩ | ⟨h1, h2, h3, h4⟩ | ⟨h1, h2, h3, h4, h5⟩
  all_goals
    refine yG ?_
    refine LS.loopJ [0, 1, 2, 7] (fun q s L' => ∃ j : Nat, q = l.length - j ∧ j ≤ l.length ∧ (l.take j).any p = false ∧ L' = L ∧ s = [.slice lA l.length lc, str w, .slice avA a.length avc, .chan none, .chan none, .chan none, .chan none, .int .i64 (j : Nat), .chan none, .chan none, .chan none, .chan none, .chan none, .chan none, .chan none, .chan none, .chan none, .chan none, .chan none, .chan none, .chan none, .chan none, .chan none, .chan none, .chan none, .chan none, .chan none, .chan none, .chan none, .chan none, .chan none, .chan none, .chan none, .chan none, .chan none, .chan none, .chan none, .chan none, .chan none, .chan none, .chan none, .chan none, .chan none, .chan none, .chan none, .chan none, .chan none, .chan none, .chan none, .chan none, .chan none, .chan none, .chan none, .chan none, .chan none, .chan none]) (n := l.length) rfl ⟨0, rfl, by omega, rfl, rfl, rfl⟩ ?_
    rintro q s L' ⟨j, rfl, hj, hE, rfl, rfl⟩
    by_cases hjn : j < l.length
    · have hb : (!ileB ((l.length : Nat) : Int) (j : Nat)) = true := by rw [ileB_eq]; simp; omega
      have hxj : l[j]? = some l[j] := List.getElem?_eq_getElem hjn
      have hax := hx _ (List.getElem_mem hjn)
      generalize l[j] = x at hxj hax
      obtain ⟨xv, hcut, hxv⟩ := hI.at hxj
      refine yG ?_
      repeat refine LS.seq ?_
      refine LS.drawn noGo mixed [(0, false), (1, false), (2, false), (3, false), (4, false), (5, false), (6, false), (7, false), (8, false), (9, false), (10, false), (11, false), (12, false), (13, false), (14, false), (15, false), (16, false), (17, false), (18, false), (19, false), (20, false), (21, false), (22, false), (23, false)] rfl rfl (by kernel_rfl) ?_
      refine yG ?_
      refine ODS.at (j := j) hlL hjn rfl rfl rfl rfl rfl rfl rfl (fun r0 o0 row0 cs0 m0 c0 g0 k0 => ?_)
      refine ⟨_, rfl, ?_⟩
      refine yG ?_
      refine ODS.read rfl rfl (e_loadm m0 c0 rfl rfl (part_one rfl (g0 1 (str x.word) (by decide) (cut_get hcut (j := 1) rfl)))) rfl ?_
      have px : p x = (decide (x.word = w) && (!decide (w = kAxis) || decide (x.args.head? = a.head?))) := by rw [← hp]
      by_cases hw : x.word = w
      · have cw : bytesEq x.word w = true := by rw [beq_bytes]; exact decide_eq_true hw
        rw [decide_eq_true hw, Bool.true_and] at px
        by_cases w3 : w = kAxis
        · have c5 : (!bytesEq w [97, 120, 105, 115]) = false := by rw [beq_bytes, Bool.not_eq_false']; exact decide_eq_true w3
          rw [decide_eq_true w3, Bool.not_true, Bool.false_or] at px
          have hne := hax (hw.trans w3)
          have hne2 := ha w3
          obtain ⟨y, r, hy⟩ : ∃ y r, x.args = y :: r := by cases hq : x.args with
            | nil => exact absurd hq hne
            | cons y r => exact ⟨y, r, rfl⟩
          obtain ⟨z, r2, hz⟩ : ∃ y r, a = y :: r := by cases hq : a with
            | nil => exact absurd hq hne2
            | cons y r => exact ⟨y, r, rfl⟩
          rw [hy, hz] at px
          have hxs := (hxv.mono hM).sv
          have hgy : (strs x.args)[0]? = some (str y) := by rw [hy]; rfl
          have hgz : (strs a)[0]? = some (str z) := by rw [hz]; rfl
          refine yG ?_
          refine ODS.at (j := j) hlL hjn rfl rfl rfl rfl rfl rfl rfl (fun r1 o1 row1 cs1 m1 c1 g1 k1 => ?_)
          refine ⟨_, rfl, ?_⟩
          refine yG ?_
          refine ODS.read rfl rfl (e_loadm m1 c1 rfl rfl (part_one rfl (g1 2 xv (by decide) (cut_get hcut (j := 2) rfl)))) rfl ?_
          refine ODS.at1 (j := 0) (hxs) (hgy) rfl rfl rfl rfl rfl rfl rfl (fun ra2 oa2 rowa2 csa2 ma2 ca2 ga2 => ⟨_, rfl, ?_⟩)
          refine ODS.read rfl rfl (e_loadm ma2 ca2 rfl rfl (part_one rfl ga2)) rfl ?_
          refine yG ?_
          refine ODS.at1 (j := 0) (hs) (hgz) rfl rfl rfl rfl rfl rfl rfl (fun ra3 oa3 rowa3 csa3 ma3 ca3 ga3 => ⟨_, rfl, ?_⟩)
          refine ODS.read rfl rfl (e_loadm ma3 ca3 rfl rfl (part_one rfl ga3)) rfl ?_
          by_cases hyz : y = z
          · have cy : bytesEq y z = true := by rw [beq_bytes]; exact decide_eq_true hyz
            refine yG ?_
            rw [any_stop hxj (by rw [px]; simp [hyz])]
            exact ⟨rfl, rfl⟩
          · have cy : bytesEq y z = false := by rw [beq_bytes]; exact decide_eq_false hyz
            refine yG ?_
            exact ⟨l.length - (j + 1), by omega, j + 1, rfl, by omega, any_step hxj hE (by rw [px]; simp [hyz]), rfl, rfl⟩
        · have c5 : (!bytesEq w [97, 120, 105, 115]) = true := by rw [beq_bytes, Bool.not_eq_true']; exact decide_eq_false w3
          rw [decide_eq_false w3, Bool.not_false, Bool.true_or] at px
          refine yG ?_
          rw [any_stop hxj px]
          exact ⟨rfl, rfl⟩
      · have cw : bytesEq x.word w = false := by rw [beq_bytes]; exact decide_eq_false hw
        rw [decide_eq_false hw, Bool.false_and] at px
        refine yG ?_
        exact ⟨l.length - (j + 1), by omega, j + 1, rfl, by omega, any_step hxj hE px, rfl, rfl⟩
    · have hb : (!ileB ((l.length : Nat) : Int) (j : Nat)) = false := by rw [ileB_eq]; simp; omega
      rw [List.take_of_length_le (by omega)] at hE
      rw [hE]
      refine yG ?_
      refine LS.exit ?_
      refine yG ?_
      exact ⟨rfl, rfl⟩
end
end Go.Proofs.YtllcbjaajffaeaaGreatDoor

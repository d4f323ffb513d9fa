/- Layer 10: Pick, the program's and the document's; Same, long; awake. -/
import Derived.Test.YtmaneoaliipccaaGg
namespace Go.Proofs.Ytmaneoaliipccaa
open Go.Am
set_option linter.unusedVariables false
set_option maxRecDepth 20000
set_option maxHeartbeats 4000000
attribute [local irreducible] OS LSr ODS CS

def pickM (ps l : List (List UInt8)) : List (List UInt8) := l.filter fun s => anyM ps s
theorem filter_take {A : Type} {f : A → Bool} {l : List A} {k : Nat} {x : A} (h : l[k]? = some x) : (l.take (k + 1)).filter f = (l.take k).filter f ++ if f x then [x] else [] := by
  rw [List.take_add_one, h, List.filter_append]
  congr 1
  simp [List.filter_cons]
theorem filter_len {A : Type} {f : A → Bool} {l : List A} (k : Nat) : ((l.take k).filter f).length ≤ k := Nat.le_trans (List.length_filter_le _ _) (by rw [List.length_take]; omega)
theorem gv_str {F L : RL} {v : Value} {ws ws' : List (List UInt8)} (g : GV 9 1 F v ws.length (strs ws) L) (e : ws' = ws) : GV 9 1 F v ws'.length (strs ws') L := by rw [e]; exact g
theorem Pick_ct {F : RL} {v w : Value} {n m : Nat} {P l : List (List UInt8)} (hv : SV 1 F v n (strs P)) (hn : n ≤ 1000000) (hl : SV 1 F w m (strs l)) (hm : m ≤ 1000000) (hs : ∀ s ∈ l, s.length ≤ 1000000) :
    CS Try.prog 17 [v, w] F fun v' L' => GV 9 1 F v' (pickM P l).length (strs (pickM P l)) L' := by
  have hlen : l.length = m := by have := hl.len; rw [strs_len] at this; omega
  refine CS.mk (fn := Try.f17) rfl rfl rfl rfl ?_
  refine yG ?_
  refine LS.loopJ [0, 5, 8, 9, 10] (fun q a L' => ∃ (k : Nat) (lv : Value), q = m - k ∧ k ≤ m ∧ GV 9 1 F lv ((l.take k).filter fun s => anyM P s).length (strs ((l.take k).filter fun s => anyM P s)) L' ∧ a = [v, .chan none, .chan none, .chan none, .chan none, lv, .chan none, .chan none, w, .int .i64 (m : Nat), .int .i64 (k : Nat), .chan none, .chan none, .chan none, .chan none, .chan none, .chan none, .chan none, .chan none, .chan none, .chan none, .chan none, .chan none]) (n := m) rfl ⟨0, .slice none 0 0, rfl, by omega, .nil, rfl⟩ ?_
  rintro q a L' ⟨k, lv, rfl, hk, hg, rfl⟩
  refine yG ?_
  repeat refine LS.seq ?_
  refine LS.cond rfl (fun hc => ?_) (fun hc => ?_)
  · have hc := lt_of hc
    obtain ⟨s, hsk⟩ := ext_list (l := l) (k := k) (by omega)
    have hsl := hs s (List.mem_of_getElem? hsk)
    refine LS.skip ?_
    refine yG ?_
    refine OS.at1 (j := k) (hl.mono hg.mem) (strs_at hsk) rfl rfl rfl rfl rfl rfl (fun ra0 oa0 rowa0 csa0 ma0 ca0 ga0 => ⟨_, rfl, ?_⟩)
    refine OS.read rfl (e_loadm ma0 ca0 rfl rfl (part_one rfl ga0)) rfl ?_
    refine yG ?_
    refine OS.call noGo rfl (fun _ => rfl) ((Any_ct (hv.mono hg.mem) hn hsl).mono ?_)
    rintro v' L2 ⟨rfl, hL⟩
    rw [hL]
    clear hL
    rcases tf (anyM P s) with h1 | h1
    · rw [h1]
      refine yG ?_
      have hfl := filter_len (f := fun s => anyM P s) (l := l) k
      refine OS.fresh rfl (e_new (fun _ => rfl) rfl) (fun _ => rfl) (fun rn => ?_)
      refine OS.fresh rfl (e_appendGV [_] (m := 1) (sz := 1) (bts := 16) hg (SV.row (sz := 1) (n := 1) (List.mem_cons_self ..) rfl) (by omega) rfl rfl rfl rfl (by omega) (by omega)) (fun _ => rfl) (fun r2 => ?_)
      refine OS.sub (Sub.drop 1 rfl) ?_
      refine yG ?_
      refine ⟨m - (k + 1), by omega, k + 1, _, rfl, by omega, ?_, rfl⟩
      rw [filter_take hsk, h1, if_pos rfl, strs_snoc, List.length_append]
      exact GV.of (by rw [List.length_append, strs_len]; simp)
    · rw [h1]
      refine yG ?_
      refine ⟨m - (k + 1), by omega, k + 1, lv, rfl, by omega, ?_, rfl⟩
      rw [filter_take hsk, h1, if_neg (by simp), List.append_nil]
      exact hg
  · have hc := nlt_of hc
    obtain rfl : k = m := by omega
    refine LS.exit ?_
    refine yG ?_
    unfold pickM
    rw [← hlen, List.take_length] at hg
    exact hg
theorem refPick_ct {F : RL} {v w : Value} {n m : Nat} {P l : List (List UInt8)} (hv : SV 1 F v n (strs P)) (hn : n ≤ 1000000) (hl : SV 1 F w m (strs l)) (hm : m ≤ 1000000) (hs : ∀ s ∈ l, s.length ≤ 1000000) :
    CS Try.prog 16 [v, w] F fun v' L' => GV 9 1 F v' (pickM P l).length (strs (pickM P l)) L' := by
  have hlen : l.length = m := by have := hl.len; rw [strs_len] at this; omega
  refine CS.mk (fn := Try.f16) rfl rfl rfl rfl ?_
  refine yG ?_
  refine LS.loopJ [0, 1, 5, 6] (fun q a L' => ∃ (k : Nat) (lv : Value), q = m - k ∧ k ≤ m ∧ GV 9 1 F lv ((l.take k).filter fun s => anyM P s).length (strs ((l.take k).filter fun s => anyM P s)) L' ∧ a = [v, w, .chan none, .chan none, .chan none, lv, .int .i64 (k : Nat), .chan none, .chan none, .chan none, .chan none, .chan none, .chan none, .chan none, .chan none, .chan none, .chan none, .chan none, .chan none, .chan none, .chan none, .chan none, .chan none, .chan none, .chan none, .chan none, .chan none]) (n := m) rfl ⟨0, .slice none 0 0, rfl, by omega, .nil, rfl⟩ ?_
  rintro q a L' ⟨k, lv, rfl, hk, hg, rfl⟩
  refine yG ?_
  repeat refine LS.seq ?_
  refine LS.cond rfl (fun hc => ?_) (fun hc => ?_)
  · have hc := lt_of hc
    obtain ⟨s, hsk⟩ := ext_list (l := l) (k := k) (by omega)
    have hsl := hs s (List.mem_of_getElem? hsk)
    refine LS.skip ?_
    refine yG ?_
    refine OS.at1 (j := k) (hl.mono hg.mem) (strs_at hsk) rfl rfl rfl rfl rfl rfl (fun ra0 oa0 rowa0 csa0 ma0 ca0 ga0 => ⟨_, rfl, ?_⟩)
    refine OS.read rfl (e_loadm ma0 ca0 rfl rfl (part_one rfl ga0)) rfl ?_
    refine yG ?_
    refine OS.call noGo rfl (fun _ => rfl) ((refAny_ct (hv.mono hg.mem) hn hsl).mono ?_)
    rintro v' L2 ⟨rfl, hL⟩
    rw [hL]
    clear hL
    rcases tf (anyM P s) with h1 | h1
    · rw [h1]
      refine yG ?_
      refine OS.at1 (j := k) (hl.mono hg.mem) (strs_at hsk) rfl rfl rfl rfl rfl rfl (fun ra2 oa2 rowa2 csa2 ma2 ca2 ga2 => ⟨_, rfl, ?_⟩)
      refine OS.read rfl (e_loadm ma2 ca2 rfl rfl (part_one rfl ga2)) rfl ?_
      have hfl := filter_len (f := fun s => anyM P s) (l := l) k
      refine OS.fresh rfl (e_new (fun _ => rfl) rfl) (fun _ => rfl) (fun rn => ?_)
      refine OS.fresh rfl (e_appendGV [_] (m := 1) (sz := 1) (bts := 16) hg (SV.row (sz := 1) (n := 1) (List.mem_cons_self ..) rfl) (by omega) rfl rfl rfl rfl (by omega) (by omega)) (fun _ => rfl) (fun r2 => ?_)
      refine OS.sub (Sub.drop 1 rfl) ?_
      refine yG ?_
      refine ⟨m - (k + 1), by omega, k + 1, _, rfl, by omega, ?_, rfl⟩
      rw [filter_take hsk, h1, if_pos rfl, strs_snoc, List.length_append]
      exact GV.of (by rw [List.length_append, strs_len]; simp)
    · rw [h1]
      refine yG ?_
      refine ⟨m - (k + 1), by omega, k + 1, lv, rfl, by omega, ?_, rfl⟩
      rw [filter_take hsk, h1, if_neg (by simp), List.append_nil]
      exact hg
  · have hc := nlt_of hc
    obtain rfl : k = m := by omega
    refine LS.exit ?_
    refine yG ?_
    unfold pickM
    rw [← hlen, List.take_length] at hg
    exact hg

/-! ### The examples -/
def psF : Nat → List UInt8 → List Pc
  | 0, _ => []
  | n + 1, w => if w = [] then [] else pcOf (w.take (pSize w)) :: psF n (w.drop (pSize w))
theorem ps_F : ∀ (n : Nat) (w : List UInt8), w.length ≤ n → ps w = psF n w
  | 0, w, h => by
    obtain rfl : w = [] := List.eq_nil_of_length_eq_zero (by omega)
    rw [ps_nil]; rfl
  | n + 1, w, h => by
    cases w with
    | nil => rw [ps_nil]; rfl
    | cons c w =>
      have h1 := pSize_le (c := c) (w := w)
      rw [ps_cons (by simp), ps_F n _ (by rw [List.length_drop]; simp at h h1 ⊢; omega)]
      simp [psF]
def mtF (p s : List UInt8) : Bool := decide (chk p = 0) && ms (psF p.length p) s
theorem mt_F (p s : List UInt8) : mt p s = mtF p s := by unfold mt mtF; rw [ps_F _ p (Nat.le_refl _)]
def sGo : List UInt8 := [115, 114, 99, 47, 42, 46, 103, 111]
theorem aw0 : chk [115, 114, 99, 47, 42, 46, 103, 111] = 0 := by decide
theorem aw1 : mt [115, 114, 99, 47, 42, 46, 103, 111] [115, 114, 99, 47, 97, 46, 103, 111] = true := by rw [mt_F]; decide
theorem aw2 : mt [115, 114, 99, 47, 42, 46, 103, 111] [115, 114, 99, 47, 97, 47, 98, 46, 103, 111] = false := by rw [mt_F]; decide
theorem aw3 : mt [115, 114, 99, 47, 42, 42, 46, 103, 111] [115, 114, 99, 47, 97, 47, 98, 46, 103, 111] = true := by rw [mt_F]; decide
theorem aw4 : anyM [[120], [97, 63, 99]] [97, 98, 99] = true := by
  unfold anyM
  simp only [List.any_cons, mt_F]; decide
theorem aw5 : pickM [[97, 42]] [[97, 98], [98], [97, 47]] = [[97, 98]] := by
  unfold pickM anyM
  simp only [List.any_cons, mt_F, List.filter_cons]; decide
theorem awake_ct {F : RL} : CS Try.prog 8 [] F fun v L' => v = .bool true ∧ L' = F := by
  suffices h : CS Try.prog 8 [] F fun v L' => v = .bool true ∧ Sub F L' from
    h.less fun v L' ⟨h1, h2⟩ => ⟨F, h2, h1, rfl⟩
  refine CS.mk (fn := Try.f8) rfl rfl rfl rfl ?_
  refine yG ?_
  refine OS.call noGo rfl (fun _ => rfl) ((Check_ct [115, 114, 99, 47, 42, 46, 103, 111]).mono ?_)
  rintro v' L2 ⟨rfl, hL⟩
  rw [hL, aw0]
  clear hL
  refine yG ?_
  refine OS.call noGo rfl (fun _ => rfl) ((Match_ct [115, 114, 99, 47, 42, 46, 103, 111] [115, 114, 99, 47, 97, 46, 103, 111] (by decide)).mono ?_)
  rintro v' L2 ⟨rfl, hL⟩
  rw [hL, aw1]
  clear hL
  refine yG ?_
  refine OS.call noGo rfl (fun _ => rfl) ((Match_ct [115, 114, 99, 47, 42, 46, 103, 111] [115, 114, 99, 47, 97, 47, 98, 46, 103, 111] (by decide)).mono ?_)
  rintro v' L2 ⟨rfl, hL⟩
  rw [hL, aw2]
  clear hL
  refine yG ?_
  refine OS.call noGo rfl (fun _ => rfl) ((Match_ct [115, 114, 99, 47, 42, 42, 46, 103, 111] [115, 114, 99, 47, 97, 47, 98, 46, 103, 111] (by decide)).mono ?_)
  rintro v' L2 ⟨rfl, hL⟩
  rw [hL, aw3]
  clear hL
  refine yG ?_
  refine OS.fresh rfl (e_new (fun _ => rfl) rfl) (fun _ => rfl) (fun r1 => ?_)
  refine OS.call noGo rfl (fun _ => rfl) ((Any_ct (ws := [[120], [97, 63, 99]]) (s := [97, 98, 99]) (SV.row (sz := 1) (n := 2) (List.mem_cons_self ..) rfl) (by decide) (by decide)).mono ?_)
  rintro v' L2 ⟨rfl, hL⟩
  rw [hL, aw4]
  clear hL
  refine yG ?_
  refine OS.fresh rfl (e_new (fun _ => rfl) rfl) (fun _ => rfl) (fun r2 => ?_)
  refine OS.fresh rfl (e_new (fun _ => rfl) rfl) (fun _ => rfl) (fun r3 => ?_)
  refine OS.call noGo rfl (fun _ => rfl) ((Pick_ct (P := [[97, 42]]) (l := [[97, 98], [98], [97, 47]]) (SV.row (sz := 1) (n := 1) (List.mem_cons_of_mem _ (List.mem_cons_self ..)) rfl) (by decide) (SV.row (sz := 1) (n := 3) (List.mem_cons_self ..) rfl) (by decide) (by decide)).mono ?_)
  rintro v' L2 hg
  rw [aw5] at hg
  have hsub := hg
  refine ⟨_, rfl, ?_⟩
  refine OS.pure rfl (e_len hg.sv rfl rfl rfl rfl rfl) rfl ?_
  refine yG ?_
  refine ⟨rfl, ?_⟩
  rcases hg with ⟨_, h0, _, _⟩ | ⟨r, _, _, rfl⟩
  · cases h0
  · exact ⟨_, List.perm_append_comm (l₁ := [_, _, _, _])⟩
end Go.Proofs.Ytmaneoaliipccaa

/- Layer 10: Any and Pick, the program's and the document's. -/
import Derived.Test.YtmaneoaliipccaaGf
namespace Go.Proofs.Ytmaneoaliipccaa
open Go.Am
set_option linter.unusedVariables false
set_option maxRecDepth 20000
set_option maxHeartbeats 4000000
attribute [local irreducible] OS LSr ODS CS

def strs (ws : List (List UInt8)) : List Value := ws.map fun w => str w
theorem strs_len (ws : List (List UInt8)) : (strs ws).length = ws.length := by simp [strs]
theorem strs_at {ws : List (List UInt8)} {j : Nat} {w : List UInt8} (h : ws[j]? = some w) : (strs ws)[j]? = some (str w) := by simp [strs, h]
theorem strs_snoc (ws : List (List UInt8)) (w : List UInt8) : strs (ws ++ [w]) = strs ws ++ [str w] := by simp [strs]
theorem strs_one : ∀ ws : List (List UInt8), allOne (strs ws) = true
  | [] => rfl
  | w :: ws => by simp only [strs, List.map_cons, allOne]; exact strs_one ws
/-- Does one of the patterns match? -/
def anyM (ps : List (List UInt8)) (s : List UInt8) : Bool := ps.any fun p => mt p s
theorem any_take {A : Type} {f : A → Bool} {l : List A} {k : Nat} {x : A} (h : l[k]? = some x) : (l.take (k + 1)).any f = ((l.take k).any f || f x) := by
  rw [List.take_add_one, h]; simp
theorem any_yes {A : Type} {f : A → Bool} {l : List A} {k : Nat} {x : A} (h : l[k]? = some x) (hf : f x = true) : l.any f = true := List.any_eq_true.2 ⟨x, List.mem_of_getElem? h, hf⟩
theorem ext_list {A : Type} {l : List A} {k : Nat} (h : k < l.length) : ∃ x, l[k]? = some x := ⟨_, List.getElem?_eq_getElem h⟩
theorem anyF_ct {L : RL} {rs : Nat} {p s : List UInt8} (hm : (rs, boxRow s) ∈ L) (hs : s.length ≤ 1000000) : CS Try.prog 24 [str p, ptr rs] L fun v L' => v = .bool (mt p s) ∧ L' = L := by
  refine CS.mk (fn := Try.f24) rfl rfl rfl rfl ?_
  refine yG ?_
  refine OS.read rfl (e_loadm hm rfl rfl rfl (part_one rfl rfl)) rfl ?_
  refine yG ?_
  refine OS.call noGo rfl (fun _ => rfl) ((Match_ct p s hs).mono ?_)
  rintro v L' ⟨rfl, rfl⟩
  refine yG ?_
  exact ⟨rfl, rfl⟩
theorem IndexFunc_ct {L : RL} {v : Value} {n rs : Nat} {ws : List (List UInt8)} {s : List UInt8} (hv : SV 1 L v n (strs ws)) (hn : n ≤ 1000000) (hm : (rs, boxRow s) ∈ L) (hs : s.length ≤ 1000000) :
    CS Try.prog 29 [v, .func (.func 24) #[] #[ptr rs]] L fun v L' => ∃ z : Int, v = .int .i64 z ∧ ileB 0 z = anyM ws s ∧ L' = L := by
  have hlen : ws.length = n := by have := hv.len; rw [strs_len] at this; omega
  refine CS.mk (fn := Try.f29) rfl rfl rfl rfl ?_
  refine yG ?_
  refine LS.loopJ [0, 1, 7, 8] (fun q a L' => ∃ k : Nat, q = n - k ∧ k ≤ n ∧ (ws.take k).any (fun p => mt p s) = false ∧ L' = L ∧ a = [v, .func (.func 24) #[] #[ptr rs], .chan none, .chan none, .chan none, .chan none, .chan none, .int .i64 (n : Nat), .int .i64 (k : Nat), .chan none, .chan none, .chan none, .chan none, .chan none, .chan none, .chan none, .chan none, .chan none, .chan none]) (n := n) rfl ⟨0, rfl, by omega, by simp, rfl, rfl⟩ ?_
  rintro q a L' ⟨k, rfl, hk, hall, hL, rfl⟩
  rw [hL]
  clear hL
  refine yG ?_
  repeat refine LS.seq ?_
  refine LS.cond rfl (fun hc => ?_) (fun hc => ?_)
  · have hc := lt_of hc
    obtain ⟨p, hp⟩ := ext_list (l := ws) (k := k) (by omega)
    refine LS.skip ?_
    refine yG ?_
    refine OS.at1 (j := k) (hv) (strs_at hp) rfl rfl rfl rfl rfl rfl (fun ra0 oa0 rowa0 csa0 ma0 ca0 ga0 => ⟨_, rfl, ?_⟩)
    refine OS.read rfl (e_loadm ma0 ca0 rfl rfl (part_one rfl ga0)) rfl ?_
    refine OS.call noGo rfl (fun _ => rfl) ((anyF_ct (p := p) hm hs).mono ?_)
    rintro v' L' ⟨rfl, hL⟩
    rw [hL]
    clear hL
    rcases tf (mt p s) with h1 | h1
    · rw [h1]
      refine yG ?_
      refine ⟨?_, rfl⟩
      rw [ileB_iff.2 (by omega)]
      exact (any_yes hp h1).symm
    · rw [h1]
      refine yG ?_
      exact ⟨n - (k + 1), by omega, k + 1, rfl, by omega, by rw [any_take hp, hall, h1]; rfl, rfl, rfl⟩
  · have hc := nlt_of hc
    obtain rfl : k = n := by omega
    refine LS.exit ?_
    refine yG ?_
    refine ⟨?_, rfl⟩
    rw [← hlen, List.take_length] at hall
    unfold anyM
    rw [hall]; rfl
theorem Any_ct {F : RL} {v : Value} {n : Nat} {ws : List (List UInt8)} {s : List UInt8} (hv : SV 1 F v n (strs ws)) (hn : n ≤ 1000000) (hs : s.length ≤ 1000000) : CS Try.prog 14 [v, str s] F fun v L' => v = .bool (anyM ws s) ∧ L' = F := by
  suffices h : CS Try.prog 14 [v, str s] F fun v L' => v = .bool (anyM ws s) ∧ Sub F L' from
    h.less fun v L' ⟨h1, h2⟩ => ⟨F, h2, h1, rfl⟩
  have key : ∀ rs, CS Try.prog 23 [v, .func (.func 24) #[] #[ptr rs]] ((rs, boxRow s) :: F) fun v L' => v = .bool (anyM ws s) ∧ L' = (rs, boxRow s) :: F := by
    intro rs
    refine CS.mk (fn := Try.f23) rfl rfl rfl rfl ?_
    refine yG ?_
    refine OS.call noGo rfl (fun _ => rfl) ((IndexFunc_ct hv.cons hn (List.mem_cons_self ..) hs).mono ?_)
    rintro v' L' ⟨z, rfl, hz, hL⟩
    rw [hL]
    clear hL
    refine yG ?_
    exact ⟨rfl, rfl⟩
  refine CS.mk (fn := Try.f14) rfl rfl rfl rfl ?_
  refine yG ?_
  refine OS.fresh rfl (e_box rfl rfl ⟨rfl, rfl⟩ rfl) (fun _ => rfl) (fun rs => ?_)
  refine yG ?_
  refine OS.call noGo rfl (fun _ => rfl) ((key rs).mono ?_)
  rintro v' L' ⟨rfl, hL⟩
  rw [hL]
  clear hL
  refine yG ?_
  exact ⟨rfl, Sub.tail⟩
theorem refAny_ct {L : RL} {v : Value} {n : Nat} {ws : List (List UInt8)} {s : List UInt8} (hv : SV 1 L v n (strs ws)) (hn : n ≤ 1000000) (hs : s.length ≤ 1000000) : CS Try.prog 15 [v, str s] L fun v L' => v = .bool (anyM ws s) ∧ L' = L := by
  have hlen : ws.length = n := by have := hv.len; rw [strs_len] at this; omega
  refine CS.mk (fn := Try.f15) rfl rfl rfl rfl ?_
  refine yG ?_
  refine LS.loopJ [0, 1, 5] (fun q a L' => ∃ k : Nat, q = n - k ∧ k ≤ n ∧ (ws.take k).any (fun p => mt p s) = false ∧ L' = L ∧ a = [v, str s, .chan none, .chan none, .chan none, .int .i64 (k : Nat), .chan none, .chan none, .chan none, .chan none, .chan none, .chan none, .chan none, .chan none, .chan none, .chan none, .chan none, .chan none]) (n := n) rfl ⟨0, rfl, by omega, by simp, rfl, rfl⟩ ?_
  rintro q a L' ⟨k, rfl, hk, hall, hL, rfl⟩
  rw [hL]
  clear hL
  refine yG ?_
  repeat refine LS.seq ?_
  refine LS.cond rfl (fun hc => ?_) (fun hc => ?_)
  · have hc := lt_of hc
    obtain ⟨p, hp⟩ := ext_list (l := ws) (k := k) (by omega)
    refine LS.skip ?_
    refine yG ?_
    refine OS.at1 (j := k) (hv) (strs_at hp) rfl rfl rfl rfl rfl rfl (fun ra0 oa0 rowa0 csa0 ma0 ca0 ga0 => ⟨_, rfl, ?_⟩)
    refine OS.read rfl (e_loadm ma0 ca0 rfl rfl (part_one rfl ga0)) rfl ?_
    refine yG ?_
    refine OS.call noGo rfl (fun _ => rfl) ((refMatch_ct p s hs).mono ?_)
    rintro v' L' ⟨rfl, hL⟩
    rw [hL]
    clear hL
    rcases tf (mt p s) with h1 | h1
    · rw [h1]
      refine yG ?_
      exact ⟨by rw [anyM, any_yes hp h1]; rfl, rfl⟩
    · rw [h1]
      refine yG ?_
      exact ⟨n - (k + 1), by omega, k + 1, rfl, by omega, by rw [any_take hp, hall, h1]; rfl, rfl, rfl⟩
  · have hc := nlt_of hc
    obtain rfl : k = n := by omega
    refine LS.exit ?_
    refine yG ?_
    refine ⟨?_, rfl⟩
    rw [← hlen, List.take_length] at hall
    unfold anyM
    rw [hall]; rfl
end Go.Proofs.Ytmaneoaliipccaa

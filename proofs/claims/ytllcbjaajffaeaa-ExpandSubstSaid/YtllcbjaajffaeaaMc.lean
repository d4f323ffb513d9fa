/- Layer 14: Label, the program's and the document's. -/
import Derived.Test.YtllcbjaajffaeaaMb
namespace Go.Mx
theorem mk_len (e : UInt8) : ∀ s : B, (mk e s).length ≤ 2 * s.length
  | [] => by simp [mk]
  | c :: s => by
    have := mk_len e s
    simp only [mk, List.length_append, List.length_cons]
    split <;> simp <;> omega
theorem mk_snoc {e : UInt8} {s : B} {k : Nat} {c : UInt8} (h : s[k]? = some c) : mk e (s.take (k + 1)) = mk e (s.take k) ++ (if isQ c e then [92, c] else [c]) := by
  rw [List.take_add_one, h, mk_app]; simp [mk]
theorem le_sum {x : Nat} : ∀ {l : List Nat}, x ∈ l → x ≤ l.sum
  | [], h => by cases h
  | y :: l, h => by
    rcases List.mem_cons.1 h with rfl | h
    · simp
    · have := le_sum h; simp; omega
def vlen (row : List B) : Nat := (row.map fun w => 1 + 2 * w.length).sum
theorem vals_len : ∀ (e : UInt8) (row : List B), (vals e row).length ≤ vlen row
  | _, [] => by simp [vals]
  | e, w :: row => by
    have h1 := vals_len 44 row
    have h2 := mk_len 44 w
    simp only [vals, vlen, List.map_cons, List.sum_cons, List.length_cons, List.length_append]
    unfold vlen at h1
    omega
theorem vals_snoc : ∀ {e : UInt8} {row : List B} {w : B} {k : Nat}, row[k]? = some w → vals e (row.take (k + 1)) = vals e (row.take k) ++ (if k = 0 then e else 44) :: mk 44 w
  | _, [], _, _, h => by simp at h
  | e, v :: row, w, 0, h => by
    simp at h; subst h
    simp [vals]
  | e, v :: row, w, k + 1, h => by
    simp only [List.take_succ_cons, vals]
    rw [vals_snoc (by simpa using h)]
    simp
theorem vlen_mem {row : List B} {w : B} (h : w ∈ row) : 1 + 2 * w.length ≤ vlen row := le_sum (List.mem_map_of_mem (f := fun w : B => 1 + 2 * w.length) h)
theorem vlen_take (row : List B) (k : Nat) : vlen (row.take k) ≤ vlen row := by
  unfold vlen
  conv => rhs; rw [← List.take_append_drop k row]
  rw [List.map_append, List.sum_append]; omega
theorem vlen_le {row : List B} {m : Nat} (h : ∀ w ∈ row, w.length ≤ m) : vlen row ≤ row.length * (1 + 2 * m) := by
  induction row with
  | nil => simp [vlen]
  | cons w row ih =>
    have h1 := h w (by simp)
    have h2 := ih fun x hx => h x (by simp [hx])
    simp only [vlen, List.map_cons, List.sum_cons, List.length_cons, Nat.add_mul] at h2 ⊢
    omega
end Go.Mx
namespace Go.Proofs.Ytllcbjaajffaeaa
open Go.Am Go.Mx
set_option linter.unusedVariables false
set_option maxRecDepth 20000
set_option maxHeartbeats 4000000
attribute [local irreducible] OS LSr ODS CS
theorem isQuoted_ct {L : RL} (c e : UInt8) : CS Try.prog 49 [.int .u8 (c.toNat : Nat), .int .u8 (e.toNat : Nat)] L fun v L' => v = .bool (isQ c e) ∧ L' = L := by
  have h0 : isQ c e = (ieqB (c.toNat : Nat) 92 || ieqB (c.toNat : Nat) (e.toNat : Nat)) := by rw [cmp_u8 (k := 92) c 92 rfl, eq_u8]; rfl
  rw [h0]
  refine CS.mk (fn := Try.f49) rfl rfl rfl rfl ?_
  rcases tf (ieqB (c.toNat : Nat) 92) with h1 | h1 <;> rcases tf (ieqB (c.toNat : Nat) (e.toNat : Nat)) with h2 | h2 <;> rw [h1, h2]
  all_goals
    refine yG ?_
    exact ⟨rfl, rfl⟩
theorem addPart_ct {F L : RL} {b : Nat} {bs : W} (s : W) (e : UInt8) (hB : BD b bs F L) (hn : bs.length + 2 * s.length ≤ 90000000000000) : CS Try.prog 36 [ptr b, str s, .int .u8 (e.toNat : Nat)] L fun v L' => BD b (bs ++ mk e s) F L' := by
  refine CS.mk (fn := Try.f36) rfl rfl rfl rfl ?_
  refine yG ?_
  refine LS.loopJ [0, 1, 2, 8, 9] (fun q a L' => ∃ k : Nat, q = s.length - k ∧ k ≤ s.length ∧ BD b (bs ++ mk e (s.take k)) F L' ∧ a = [ptr b, str s, .int .u8 (e.toNat : Nat), .chan none, .chan none, .chan none, .chan none, .chan none, .int .i64 (s.length : Nat), .int .i64 (k : Nat), .chan none, .chan none, .chan none, .chan none, .chan none, .chan none, .chan none, .chan none, .chan none, .chan none, .chan none, .chan none, .chan none, .chan none, .chan none]) (n := s.length) rfl ⟨0, rfl, by omega, by simpa [mk] using hB, rfl⟩ ?_
  clear hB
  rintro q a L' ⟨k, rfl, hk, hB, rfl⟩
  refine yG ?_
  repeat refine LS.seq ?_
  refine LS.cond rfl (fun hc => ?_) (fun hc => ?_)
  · have hc := lt_of hc
    obtain ⟨c, hck⟩ := ext_list (l := s) (k := k) (by omega)
    have hml := mk_len e (s.take k)
    rw [List.length_take, Nat.min_eq_left hk] at hml
    refine LS.skip ?_
    refine yG ?_
    refine OS.call noGo rfl (fun _ => rfl) ((isQuoted_ct c e).mono ?_)
    rintro v' L2 ⟨rfl, hL⟩
    rw [hL]
    clear hL
    rcases tf (isQ c e) with h1 | h1
    · rw [h1]
      refine yG ?_
      refine OS.call noGo rfl (fun _ => rfl) ((WriteByte_ct 92 hB (by simp; omega)).mono ?_)
      rintro v' L2 ⟨rfl, hB2⟩
      refine yG ?_
      refine OS.call noGo rfl (fun _ => rfl) ((WriteByte_ct c hB2 (by simp; omega)).mono ?_)
      rintro v' L3 ⟨rfl, hB3⟩
      refine yG ?_
      exact ⟨s.length - (k + 1), by omega, k + 1, rfl, by omega, by rw [mk_snoc hck, h1]; simpa using hB3, rfl⟩
    · rw [h1]
      refine yG ?_
      refine OS.call noGo rfl (fun _ => rfl) ((WriteByte_ct c hB (by simp; omega)).mono ?_)
      rintro v' L3 ⟨rfl, hB3⟩
      refine yG ?_
      exact ⟨s.length - (k + 1), by omega, k + 1, rfl, by omega, by rw [mk_snoc hck, h1]; simpa using hB3, rfl⟩
  · have hc := nlt_of hc
    obtain rfl : k = s.length := by omega
    rw [List.take_length] at hB
    refine LS.exit ?_
    refine ⟨_, fun _ _ => rfl, ?_⟩
    exact hB
theorem Label_ct {L : RL} {v : Value} {n : W} {row : List W} (hv : SV 1 L v row.length (strs row)) (hr : row.length ≤ 1000000) (hl : 2 * n.length + vlen row ≤ 40000000000000) : CS Try.prog 23 [str n, v] L fun u L' => u = str (label n row) ∧ L' = L := by
  refine CS.mk (fn := Try.f23) rfl rfl rfl rfl ?_
  refine yG ?_
  refine OS.fresh rfl (e_new (fun _ => rfl) rfl) (fun _ => rfl) (fun b => ?_)
  have hB0 : BD b [] L ((b, bu (.pointer none) (.slice none 0 0)) :: L) := .inl ⟨rfl, rfl⟩
  refine yG ?_
  refine OS.call noGo rfl (fun _ => rfl) ((addPart_ct n 58 hB0 (by simp; omega)).mono ?_)
  rintro v' L2 hB
  rw [List.nil_append] at hB
  clear hB0
  have hsv := hv
  refine ⟨_, rfl, ?_⟩
  refine yG ?_
  refine LS.loopJ [0, 1, 5, 6, 11, 12, 13] (fun q a L' => ∃ k : Nat, q = row.length - k ∧ k ≤ row.length ∧ BD b (mk 58 n ++ vals 58 (row.take k)) L L' ∧ a = [str n, v, .chan none, .chan none, .chan none, ptr b, .int .u8 ((if k = 0 then (58 : UInt8) else 44).toNat : Nat), .chan none, .chan none, .chan none, .chan none, v, .int .i64 (row.length : Nat), .int .i64 (k : Nat), .chan none, .chan none, .chan none, .chan none, .chan none, .chan none, .chan none, .chan none, .chan none, .chan none]) (n := row.length) rfl ⟨0, rfl, by omega, by simpa [vals] using hB, rfl⟩ ?_
  clear hB
  rintro q a L' ⟨k, rfl, hk, hB, rfl⟩
  have h1 := mk_len 58 n
  have h2 := vals_len 58 (row.take k)
  have h3 := vlen_take row k
  refine yG ?_
  repeat refine LS.seq ?_
  refine LS.cond rfl (fun hc => ?_) (fun hc => ?_)
  · have hc := lt_of hc
    obtain ⟨w, hw⟩ := ext_list (l := row) (k := k) (by omega)
    have h4 := vals_len 58 (row.take (k + 1))
    have h5 := vlen_take row (k + 1)
    have h6 := vlen_mem (List.mem_of_getElem? hw)
    refine LS.skip ?_
    refine yG ?_
    refine OS.at1 (j := k) (hv.mono hB.mem) (strs_at hw) rfl rfl rfl rfl rfl rfl (fun ra0 oa0 rowa0 csa0 ma0 ca0 ga0 => ⟨_, rfl, ?_⟩)
    refine OS.read rfl (e_loadm ma0 ca0 rfl rfl (part_one rfl ga0)) rfl ?_
    refine yG ?_
    refine OS.call noGo rfl (fun _ => rfl) ((WriteByte_ct (if k = 0 then 58 else 44) hB (by simp; omega)).mono ?_)
    rintro v' L3 ⟨rfl, hB2⟩
    refine yG ?_
    refine OS.call noGo rfl (fun _ => rfl) ((addPart_ct w 44 hB2 (by simp; omega)).mono ?_)
    rintro v' L4 hB3
    refine yG ?_
    refine ⟨row.length - (k + 1), by omega, k + 1, rfl, by omega, ?_, rfl⟩
    rw [vals_snoc hw]
    simpa using hB3
  · have hc := nlt_of hc
    obtain rfl : k = row.length := by omega
    rw [List.take_length] at hB
    refine LS.exit ?_
    refine yG ?_
    refine OS.call noGo rfl (fun _ => rfl) ((String_ct hB (by simp; rw [List.take_length] at h2; omega)).mono ?_)
    rintro v' L3 ⟨rfl, hL⟩
    rw [hL]
    refine yG ?_
    exact ⟨rfl, rfl⟩
end Go.Proofs.Ytllcbjaajffaeaa

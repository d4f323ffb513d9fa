/- Layer 1: what the calls of the document's answer (bastionref01) that lay things come to. -/
import Derived.Test.YtnfenpkkhkdkhaaLa
namespace Go.Proofs.Ytnfenpkkhkdkhaa
open Go.Am
set_option linter.unusedVariables false
set_option maxRecDepth 20000

theorem groups_cs (u : Nat) (hu : u < 18446744073709551616) : CS Try.prog 70 [.int .u64 (u : Nat)] [] fun v _ => v = .string ⟨⟨grp u⟩⟩ ∧ Am.plain v = true := by
  induction u using Nat.strongRecOn with
  | _ u ih =>
  have hg : (grp u).length ≤ 10 := grp_len (by omega) (by omega)
  refine CS.mk (fn := Try.f70) rfl rfl rfl rfl ?_
  repeat refine LS.seq ?_
  refine LS.region rfl ?_
  refine OS.pure rfl (fun _ => rfl) rfl ?_
  refine OS.nil ?_
  by_cases h : u < 128
  · have hu1 := h
    have hb : (!ileB 128 (u : Int)) = true := by rw [ileB_eq]; simp; omega
    have hc8 : (UInt8.ofNat u).toNat = u := toNat_of (by omega)
    repeat refine LS.seq ?_
    refine LS.region rfl ?_
    refine OS.pure rfl (fun _ => rfl) rfl ?_
    refine OS.pure rfl (e_is (fun _ => rfl) (congrArg Value.bool hb)) rfl ?_
    refine OS.nil ?_
    refine LS.cond rfl (fun h => ?_) (fun h => by cases h)
    repeat refine LS.seq ?_
    refine LS.region rfl ?_
    refine OS.pure rfl (fun _ => rfl) rfl ?_
    refine OS.pure rfl (e_conv rfl rfl rfl rfl (in_u8 (by omega) (by omega))) rfl ?_
    refine OS.fresh rfl (e_new (fun _ => rfl) rfl) (fun _ => rfl) (fun r => ?_)
    refine OS.read rfl (e_textSV (n := 1) (bs := [UInt8.ofNat u]) (SV.row (sz := 1) (n := 1) (List.mem_cons_self ..) rfl |> fun h => by simpa [byteCells, hc8] using h) rfl rfl rfl rfl rfl) rfl ?_
    refine OS.pure rfl (fun _ => rfl) rfl ?_
    refine OS.nil ?_
    refine LS.ret ⟨_, fun _ _ => rfl, ?_⟩
    exact ⟨by rw [grp_lt hu1]; rfl, rfl⟩
  · have hb : (!ileB 128 (u : Int)) = false := by rw [ileB_eq]; simp; omega
    have hc8 : (UInt8.ofNat (u % 128 + 128)).toNat = u % 128 + 128 := toNat_of (by omega)
    repeat refine LS.seq ?_
    refine LS.region rfl ?_
    refine OS.pure rfl (fun _ => rfl) rfl ?_
    refine OS.pure rfl (e_is (fun _ => rfl) (congrArg Value.bool hb)) rfl ?_
    refine OS.nil ?_
    refine LS.cond rfl (fun h => by cases h) (fun h => ?_)
    refine LS.skip ?_
    have ih := ih (u / 128) (by omega) (by omega)
    have hg' : grp u = UInt8.ofNat (u % 128 + 128) :: grp (u / 128) := grp_ge (by omega)
    repeat refine LS.seq ?_
    refine LS.drawn noGo mixed [(0, false), (1, false), (2, false), (3, false), (6, false), (7, false), (8, false), (4, true), (5, false), (9, false), (10, false)] rfl rfl (by kernel_rfl) ?_
    refine ODS.pure rfl rfl (fun _ => rfl) rfl ?_
    refine ODS.pure rfl rfl (e_rem (n := 128) rfl rfl rfl (by decide)) rfl ?_
    refine ODS.pure rfl rfl (e_add rfl rfl rfl (in_u64 (by omega) (by omega))) rfl ?_
    refine ODS.pure rfl rfl (e_conv rfl rfl rfl rfl (in_u8 (by omega) (by omega))) rfl ?_
    refine ODS.pure rfl rfl (fun _ => rfl) rfl ?_
    refine ODS.pure rfl rfl (e_quo (n := 128) rfl rfl rfl (by decide) (in_u64 (by omega) (by omega))) rfl ?_
    refine ODS.still rfl rfl (fun _ => rfl) (CQ.still ih rfl) rfl ?_
    refine ODS.fresh rfl rfl (e_new (fun _ => rfl) rfl) (fun _ => rfl) (fun _ => Keep.nil) (fun r => ?_)
    refine ODS.read rfl rfl (e_textSV (n := 1) (bs := [UInt8.ofNat (u % 128 + 128)]) (SV.row (sz := 1) (n := 1) (List.mem_cons_self ..) rfl |> fun h => by rw [show byteCells [UInt8.ofNat (u % 128 + 128)] = [.int .u8 (128 + ((u % 128 : Nat) : Int))] by simp [byteCells, hc8]; omega]; exact h) rfl rfl rfl rfl rfl) rfl ?_
    refine ODS.pure rfl rfl (e_cat rfl rfl rfl (by simp; have := grp_len (k := 10) (u := u / 128) (by omega) (by omega); omega)) rfl ?_
    refine ODS.pure rfl rfl (fun _ => rfl) rfl ?_
    refine ODS.nil ?_
    refine LS.ret ⟨_, fun _ _ => rfl, ?_⟩
    exact ⟨by rw [hg']; rfl, rfl⟩

theorem twice_ct {L : RL} (n : Int) (h0 : -9223372036854775808 ≤ n) (h1 : n ≤ 9223372036854775807) : CS Try.prog 71 [.int .i64 n] L fun v L' => v = .int .u64 (zig n : Nat) ∧ L' = L := by
  refine CS.mk (fn := Try.f71) rfl rfl rfl rfl ?_
  repeat refine LS.seq ?_
  refine LS.region rfl ?_
  refine OS.pure rfl (fun _ => rfl) rfl ?_
  refine OS.nil ?_
  repeat refine LS.seq ?_
  refine LS.region rfl ?_
  refine OS.pure rfl (fun _ => rfl) rfl ?_
  refine OS.pure rfl (fun _ => rfl) rfl ?_
  refine OS.nil ?_
  refine LS.cond rfl (fun hc => ?_) (fun hc => ?_)
  · have hc := lt_of hc
    repeat refine LS.seq ?_
    refine LS.region rfl ?_
    refine OS.pure rfl (fun _ => rfl) rfl ?_
    refine OS.pure rfl (fun _ => rfl) rfl ?_
    refine OS.pure rfl (fun _ => rfl) rfl ?_
    refine OS.pure rfl (fun _ => rfl) rfl ?_
    refine OS.pure rfl (fun _ => rfl) rfl ?_
    refine OS.pure rfl (fun _ => rfl) rfl ?_
    refine OS.pure rfl (fun _ => rfl) rfl ?_
    refine OS.nil ?_
    refine LS.ret ⟨_, fun _ _ => rfl, ?_⟩
    have key : wrapB IntKind.u64 (wrapB IntKind.u64 (2 * wrapB IntKind.u64 (wrapB IntKind.i64 (0 - wrapB IntKind.i64 (n + 1)))) + 1) = (zig n : Int) := by
      rw [zig_neg hc]
      simp only [wrapB_eq, IntKind.wrap_i64, Am.wrap_u64]
      omega
    exact ⟨by rw [← key]; rfl, rfl⟩
  · have hc := nlt_of hc
    refine LS.skip ?_
    repeat refine LS.seq ?_
    refine LS.region rfl ?_
    refine OS.pure rfl (fun _ => rfl) rfl ?_
    refine OS.pure rfl (e_conv rfl rfl rfl rfl (in_u64 (by omega) (by omega))) rfl ?_
    refine OS.pure rfl (e_mul rfl rfl rfl (in_u64 (by omega) (by omega))) rfl ?_
    refine OS.pure rfl (fun _ => rfl) rfl ?_
    refine OS.nil ?_
    refine LS.ret ⟨_, fun _ _ => rfl, ?_⟩
    exact ⟨by rw [zig_pos hc]; rfl, rfl⟩
theorem groups_ct {L : RL} (u : Nat) (hu : u < 18446744073709551616) : CS Try.prog 70 [.int .u64 (u : Nat)] L fun v L' => v = .string ⟨⟨grp u⟩⟩ ∧ L' = L :=
  CS.still (groups_cs u hu) rfl

theorem behind_ct {F : RL} {b : Value} {bs s : List UInt8} {n : Nat} (hb : SV 1 F b n (byteCells bs)) (hn : n ≤ 400000000000) (hs : s.length ≤ 400000000000) :
    CS Try.prog 52 [b, .string ⟨⟨s⟩⟩] F fun v L' => GV 5 1 F v (n + s.length) (byteCells (bs ++ s)) L' := by
  have hl : bs.length = n := by have := hb.len; simpa [byteCells] using this
  refine CS.mk (fn := Try.f52) rfl rfl rfl rfl ?_
  repeat refine LS.seq ?_
  refine LS.region rfl ?_
  refine OS.pure rfl (fun _ => rfl) rfl ?_
  refine OS.nil ?_
  repeat refine LS.seq ?_
  refine LS.region rfl ?_
  refine OS.pure rfl (fun _ => rfl) rfl ?_
  refine OS.nil ?_
  repeat refine LS.seq ?_
  refine LS.region rfl ?_
  refine OS.pure rfl (fun _ => rfl) rfl ?_
  refine OS.nil ?_
  repeat refine LS.seq ?_
  refine LS.block ?_
  refine LS.loop (fun m a L => ∃ i out x1 x2 x3 x4 x5 x6 x7 x8 x9 x10 x11 x12 x13 x14 x15 x16 x17 x18 x19 x20 x21 x22 x23 x24 x25 x26 x27 x28, m = n - i ∧ i ≤ n ∧ GV 5 1 F out i (byteCells (bs.take i)) L ∧ a = [b, .string ⟨⟨s⟩⟩, x1, x2, .slice none 0 0, out, .int .i64 (i : Nat), x3, x4, x5, x6, x7, x8, x9, x10, x11, x12, x13, x14, x15, x16, x17, x18, x19, x20, x21, x22, x23, x24, x25, x26, x27, x28, undef]) (n := n) ⟨0, .slice none 0 0, _, _, _, _, _, _, _, _, _, _, _, _, _, _, _, _, _, _, _, _, _, _, _, _, _, _, _, _, rfl, by omega, GV.nil, rfl⟩ ?_
  rintro m a L ⟨i, out, x1, x2, x3, x4, x5, x6, x7, x8, x9, x10, x11, x12, x13, x14, x15, x16, x17, x18, x19, x20, x21, x22, x23, x24, x25, x26, x27, x28, rfl, hi, hg, rfl⟩
  repeat refine LS.seq ?_
  refine LS.region rfl ?_
  refine OS.pure rfl (fun _ => rfl) rfl ?_
  refine OS.pure rfl (fun _ => rfl) rfl ?_
  refine OS.pure rfl (e_len (hb.mono hg.mem) rfl rfl rfl rfl rfl) rfl ?_
  refine OS.pure rfl (fun _ => rfl) rfl ?_
  refine OS.nil ?_
  refine LS.cond rfl (fun hc => ?_) (fun hc => ?_)
  · have hc := lt_of hc
    have hin : i < n := by omega
    refine LS.skip ?_
    repeat refine LS.seq ?_
    refine LS.block ?_
    repeat refine LS.seq ?_
    refine LS.region rfl ?_
    refine OS.pure rfl (fun _ => rfl) rfl ?_
    refine OS.pure rfl (fun _ => rfl) rfl ?_
    refine OS.pure rfl (fun _ => rfl) rfl ?_
    refine OS.at1 (j := i) (hb.mono hg.mem) (byteCells_get (List.getElem?_eq_getElem (by omega))) rfl rfl rfl rfl rfl rfl (fun r0 o0 row0 cs0 m0 c0 g0 => ?_)
    refine ⟨_, rfl, ?_⟩
    refine OS.read rfl (e_loadm m0 c0 rfl rfl (part_one rfl g0)) rfl ?_
    refine OS.fresh rfl (e_new (fun _ => rfl) rfl) (fun _ => rfl) (fun r2 => ?_)
    refine OS.fresh rfl (e_appendGV [_] (m := 1) (sz := 1) (bts := 1) hg (SV.row (sz := 1) (n := 1) (List.mem_cons_self ..) rfl) (by omega) rfl rfl rfl rfl (by omega) (by omega)) (fun _ => rfl) (fun r3 => ?_)
    refine OS.pure rfl (fun _ => rfl) rfl ?_
    refine OS.sub (Sub.drop 1 rfl) ?_
    refine OS.nil ?_
    repeat refine LS.seq ?_
    refine LS.region rfl ?_
    refine OS.pure rfl (fun _ => rfl) rfl ?_
    refine OS.pure rfl (e_add rfl rfl rfl (in_i64 (by omega) (by omega))) rfl ?_
    refine OS.pure rfl (fun _ => rfl) rfl ?_
    refine OS.nil ?_
    refine ⟨n - (i + 1), by omega, i + 1, _, _, _, _, _, _, _, _, _, _, _, _, _, _, _, _, _, _, _, _, _, _, _, _, _, _, _, _, _, rfl, by omega, ?_, rfl⟩
    have : bs.take (i + 1) = bs.take i ++ [bs[i]'(by omega)] := by rw [List.take_add_one, List.getElem?_eq_getElem (by omega)]; rfl
    rw [this, byteCells_append]
    refine GV.of ?_; simp [byteCells]; omega
  · have hc := nlt_of hc
    have hin : i = n := by omega
    rw [hin, List.take_of_length_le (by omega)] at hg
    refine LS.exit ?_
    repeat refine LS.seq ?_
    refine LS.region rfl ?_
    refine OS.pure rfl (fun _ => rfl) rfl ?_
    refine OS.nil ?_
    repeat refine LS.seq ?_
    refine LS.block ?_
    refine LS.loop (fun m a L => ∃ i out x1 x2 x3 x4 x5 x6 x7 x8 x9 x10 x11 x12 x13 x14 x15 x16 x17 x18 x19 x20 x21 x22 x23 x24 x25 x26 x27 x28 x29, m = s.length - i ∧ i ≤ s.length ∧ GV 5 1 F out (n + i) (byteCells (bs ++ s.take i)) L ∧ a = [b, .string ⟨⟨s⟩⟩, x1, x2, .slice none 0 0, out, x3, .int .i64 (i : Nat), x4, x5, x6, x7, x8, x9, x10, x11, x12, x13, x14, x15, x16, x17, x18, x19, x20, x21, x22, x23, x24, x25, x26, x27, x28, x29]) (n := s.length) ⟨0, _, _, _, _, _, _, _, _, _, _, _, _, _, _, _, _, _, _, _, _, _, _, _, _, _, _, _, _, _, _, rfl, by omega, by simpa using hg, rfl⟩ ?_
    rintro m a L ⟨i, out, x1, x2, x3, x4, x5, x6, x7, x8, x9, x10, x11, x12, x13, x14, x15, x16, x17, x18, x19, x20, x21, x22, x23, x24, x25, x26, x27, x28, x29, rfl, hi, hg, rfl⟩
    repeat refine LS.seq ?_
    refine LS.region rfl ?_
    refine OS.pure rfl (fun _ => rfl) rfl ?_
    refine OS.pure rfl (fun _ => rfl) rfl ?_
    refine OS.pure rfl (fun _ => rfl) rfl ?_
    refine OS.pure rfl (fun _ => rfl) rfl ?_
    refine OS.nil ?_
    refine LS.cond rfl (fun hc => ?_) (fun hc => ?_)
    · have hc : (i : Int) < s.length := lt_of hc
      have hin : i < s.length := by omega
      refine LS.skip ?_
      repeat refine LS.seq ?_
      refine LS.block ?_
      repeat refine LS.seq ?_
      refine LS.region rfl ?_
      refine OS.pure rfl (fun _ => rfl) rfl ?_
      refine OS.pure rfl (fun _ => rfl) rfl ?_
      refine OS.pure rfl (fun _ => rfl) rfl ?_
      refine OS.pure rfl (e_byte rfl rfl rfl rfl (List.getElem?_eq_getElem hin)) rfl ?_
      refine OS.fresh rfl (e_new (fun _ => rfl) rfl) (fun _ => rfl) (fun r2 => ?_)
      refine OS.fresh rfl (e_appendGV [_] (m := 1) (sz := 1) (bts := 1) hg (SV.row (sz := 1) (n := 1) (List.mem_cons_self ..) rfl) (by omega) rfl rfl rfl rfl (by omega) (by omega)) (fun _ => rfl) (fun r3 => ?_)
      refine OS.pure rfl (fun _ => rfl) rfl ?_
      refine OS.sub (Sub.drop 1 rfl) ?_
      refine OS.nil ?_
      repeat refine LS.seq ?_
      refine LS.region rfl ?_
      refine OS.pure rfl (fun _ => rfl) rfl ?_
      refine OS.pure rfl (e_add rfl rfl rfl (in_i64 (by omega) (by omega))) rfl ?_
      refine OS.pure rfl (fun _ => rfl) rfl ?_
      refine OS.nil ?_
      refine ⟨s.length - (i + 1), by omega, i + 1, _, _, _, _, _, _, _, _, _, _, _, _, _, _, _, _, _, _, _, _, _, _, _, _, _, _, _, _, _, _, rfl, by omega, ?_, rfl⟩
      have : bs ++ s.take (i + 1) = bs ++ s.take i ++ [s[i]'hin] := by rw [List.take_add_one, List.getElem?_eq_getElem hin]; simp
      rw [this, byteCells_append]
      refine GV.of ?_; simp [byteCells]; omega
    · have hc : (s.length : Int) ≤ i := nlt_of hc
      have hin : i = s.length := by omega
      rw [hin, List.take_of_length_le (by omega)] at hg
      refine LS.exit ?_
      repeat refine LS.seq ?_
      refine LS.region rfl ?_
      refine OS.pure rfl (fun _ => rfl) rfl ?_
      refine OS.pure rfl (fun _ => rfl) rfl ?_
      refine OS.nil ?_
      refine LS.ret ⟨_, fun _ _ => rfl, ?_⟩
      exact hg
end Go.Proofs.Ytnfenpkkhkdkhaa

/- What the functions of package code that lay things do. -/
import Derived.Test.YtafdglicbddicaaProg
import Derived.Test.YtafdglicbddicaaBase
import Derived.Lib.AppendStr
import Derived.Test.YtafdglicbddicaaPure
namespace Go.Proofs.Ytafdglicbddicaa
open Go.RowKit

theorem info_u8 : (Try.prog.info? 5).map (fun i => (i.zero, i.size, i.bytes)) = some (some (.int .u8 0), 1, 1) := by kernel_rfl

theorem cell_of_nat {m : Nat} (h : m < 256) : Value.int .u8 (m : Int) = byteV (UInt8.ofNat m) := by
  unfold byteV
  rw [toNat_of h]

set_option maxRecDepth 20000 in
set_option maxHeartbeats 400000 in
theorem addGroups_any (base : Nat) (v : Value) (bs : List UInt8) (u : Nat) (w : World) (hown : OwB w base v bs) (hbase : base ≤ w.heap.size) (hn : bs.length ≤ 70368744177664) (hu : u < 18446744073709551616) :
    Calls Try.prog 59 #[v, .int .u64 (u : Int)] w fun e w' => ∃ v', e = .returned v' ∧ OwB w' base v' (bs ++ grp u) ∧ w.grownBy w' v.ownBlock ∧ (v'.ownBlock = v.ownBlock ∨ ∀ k, v'.ownBlock = some k → w.heap.size ≤ k) := by
  have HU := Lib.hid hu
  have HN := Lib.hid hn
  clear hu hn
  go_enter Try.func59, Try.ntmps59
  go_wp2_with fail
  go_loopw [0, 1] (fun v' t wr => ∃ (m : Nat) (cs : List UInt8), t = .int .u64 (m : Int) ∧ Hid (m < 18446744073709551616) ∧ OwB wr base v' cs ∧ Hid (cs ++ grp m = bs ++ grp u) ∧ w.grownBy wr v.ownBlock ∧ Hid (v'.ownBlock = v.ownBlock ∨ ∀ k, v'.ownBlock = some k → w.heap.size ≤ k)) (fun _ t _ => (intOf t).toNat)
  case atStart => exact ⟨u, bs, rfl, HU, hown, Lib.hid rfl, by_refl _ _, Lib.hid (.inl rfl)⟩
  case round =>
    obtain ⟨m, cs, rfl, HM, hown', HE, hby, HR⟩ := hrel
    have hsz := hby.size
    have HL : Hid (cs.length ≤ 70368744177674) := by
      have h1 := congrArg List.length HE.out
      rw [List.length_append, List.length_append] at h1
      have h2 := grp_len (k := 10) (by omega) (u := u) (by have := HU.out; omega)
      have := HN.out
      exact Lib.hid (by omega)
    have HB : Hid (base ≤ wr.heap.size) := Lib.hid (by omega)
    by_cases hm : 128 ≤ m
    · go_wp2_with (at_builtin; go_loud (refine wpList_app _ rfl (.tmp 7) (.tmp 12) _ rfl base 5 _ 1 1 Try.underlying32 info_u8 rfl (by decide) u0 cs.length _ rfl (hown'.alloc _) Any _ 1 1 _ rfl (Sl.lit _ _ _) (by intro u hu; simp at hu; subst hu; rfl) (by have := HL.out; unfold maxLen; omega) (by have := HL.out; omega) (by have := HB.out; simp; omega) ?_); intro v2 w2 hown2 hg2 hat2)
      go_roundw
      case rel =>
        refine ⟨m / 128, cs ++ [UInt8.ofNat (m % 128 + 128)], vint ?_, Lib.hid (by have := HM.out; omega), ?_, Lib.hid ?_, by_step (by_trans hby (by_alloc (by_refl _ _) _)) hg2 HR.out, Lib.hid (row_step HR.out (by simp; omega) hat2)⟩
        · rw [wrap_u64 (by omega) (by have := HM.out; omega)]; omega
        · have e : Value.int .u8 ((m : Int) % 128 + 128) = byteV (UInt8.ofNat (m % 128 + 128)) := by
            rw [← cell_of_nat (by omega)]; exact vint (by omega)
          rw [e] at hown2
          simpa [OwB] using hown2
        · rw [← HE.out, grp_ge hm]; simp
      case measure =>
        rw [wrap_u64 (by omega) (by have := HM.out; omega)]
        simp only [intOf]; omega
    · go_wp2_with (at_builtin; go_loud (refine wpList_app _ rfl (.tmp 16) (.tmp 19) _ rfl base 5 _ 1 1 Try.underlying32 info_u8 rfl (by decide) u0 cs.length _ rfl (hown'.alloc _) Any _ 1 1 _ rfl (Sl.lit _ _ _) (by intro u hu; simp at hu; subst hu; rfl) (by have := HL.out; unfold maxLen; omega) (by have := HL.out; omega) (by have := HB.out; simp; omega) ?_); intro v2 w2 hown2 hg2 hat2)
      go_ret
      refine ⟨v2, rfl, ?_, by_step (by_trans hby (by_alloc (by_refl _ _) _)) hg2 HR.out, row_step HR.out (by simp; omega) hat2⟩
      have e : Value.int .u8 (m : Int) = byteV (UInt8.ofNat m) := cell_of_nat (by omega)
      rw [e] at hown2
      rw [← HE.out, grp_lt (by omega)]
      simpa [OwB] using hown2

set_option maxRecDepth 20000 in
set_option maxHeartbeats 400000 in
theorem own_any (S : Nat → Prop) (A : Option Addr) (n c : Nat) (bs : List UInt8) (R : Int) (r : Nat) (hR : R = (r : Int)) (w : World) (hs : SlB w S A n bs) (hn : n + r ≤ 70368744177664) :
    Calls Try.prog 49 #[.slice A n c, .int .i64 R] w (RetB w bs) := by
  subst hR
  have HN := Lib.hid hn
  obtain ⟨i0, hi0, hz0, hz1, hz2⟩ := info_parts info_u8
  have hnr : (n : Int) + r ≤ 9223372036854775807 := by omega
  clear hn
  have hlen := Lib.hid hs.len
  go_enter Try.func49, Try.ntmps49
  go_wp2_with (first
    | (at_make; go_loud (refine wpList_make_own _ rfl _ _ _ rfl w.heap.size 5 i0 (.int .u8 0) 1 Try.underlying32 hi0 hz0 hz1 .i64 .i64 _ (n + r) rfl rfl (by simp) (by rw [hz2]; have := HN.out; omega) (by unfold maxLen; have := HN.out; omega) (Nat.le_refl _) ?_); intro w1 hown1 hg1)
    | (at_builtin; go_loud (refine wpList_app _ rfl (.tmp 9) (.tmp 10) _ rfl w.heap.size 5 _ 1 1 Try.underlying32 info_u8 rfl (by decide) (.slice (some ⟨w.heap.size, 0, none⟩) 0 (n + r)) 0 [] rfl hown1 S A n c (bs.map byteV) rfl (hs.grown hg1 (by intro g hg; cases hg)) (byteV_one _) (by unfold maxLen; have := HN.out; omega) (by have := HN.out; omega) hg1.size ?_); intro v2 w2 hown2 hg2 hat2))
  go_ret
  refine ⟨v2, rfl, ?_, ?_⟩
  · have e := hlen.out
    unfold OwB
    rw [e]
    simpa using hown2
  · exact (below_of_by hg1 (Nat.le_refl _) (by intro k hk; cases hk)).grown hg2 hg1.size (by
      intro k hk
      have : k = w.heap.size := by simpa [Value.ownBlock] using hk.symm
      omega)

/-- May n be a count? -/
def isC (n : Int) : Bool := decide (0 ≤ n) && decide (n ≤ 2147483647)
theorem isC_iff {n : Int} : isC n = true ↔ 0 ≤ n ∧ n ≤ 2147483647 := by unfold isC; simp

set_option maxRecDepth 20000 in
set_option maxHeartbeats 400000 in
theorem isCount_any (n : Int) (w : World) : Calls Try.prog 61 #[.int .i64 n] w fun e w' => e = .returned (.bool (isC n)) ∧ w = w' := by
  by_cases h0 : 0 ≤ n
  · by_cases h1 : n ≤ 2147483647
    all_goals
      go_enter Try.func61, Try.ntmps61
      go_wp2
      go_ret
      exact ⟨by simp [isC, h0, h1], rfl⟩
  · go_enter Try.func61, Try.ntmps61
    go_wp2
    go_ret
    exact ⟨by simp [isC]; omega, rfl⟩

theorem fold_neg {n : Int} (h0 : -9223372036854775808 ≤ n) (h1 : n ≤ 9223372036854775807) (h : n < 0) :
    IntKind.u64.wrap (IntKind.u64.wrap (2 * IntKind.u64.wrap (wrap64 (-n))) - 1) = (zig n : Int) := by
  rw [zig_neg h]
  simp only [IntKind.wrap_u64, wrap64]
  omega
theorem fold_pos {n : Int} (h0 : -9223372036854775808 ≤ n) (h1 : n ≤ 9223372036854775807) (h : 0 ≤ n) :
    IntKind.u64.wrap (2 * IntKind.u64.wrap n) = (zig n : Int) := by
  rw [zig_pos h]
  simp only [IntKind.wrap_u64]
  omega

set_option maxRecDepth 20000 in
set_option maxHeartbeats 400000 in
theorem fold_any (n : Int) (w : World) (h0 : -9223372036854775808 ≤ n) (h1 : n ≤ 9223372036854775807) :
    Calls Try.prog 60 #[.int .i64 n] w fun e w' => e = .returned (.int .u64 (zig n : Int)) ∧ w = w' := by
  have H0 := Lib.hid h0
  have H1 := Lib.hid h1
  clear h0 h1
  by_cases h : n < 0
  · go_enter Try.func60, Try.ntmps60
    go_wp2
    go_ret
    exact ⟨ret_int (fold_neg H0.out H1.out h), rfl⟩
  · go_enter Try.func60, Try.ntmps60
    go_wp2
    go_ret
    exact ⟨ret_int (fold_pos H0.out H1.out (by omega)), rfl⟩

theorem isCount_yes {n : Int} (w : World) (h : isC n = true) : Calls Try.prog 61 #[.int .i64 n] w fun e w' => e = .returned (.bool true) ∧ w = w' :=
  (isCount_any n w).mono fun _ _ ⟨he, hw⟩ => ⟨by rw [he, h], hw⟩
theorem isCount_no {n : Int} (w : World) (h : isC n = false) : Calls Try.prog 61 #[.int .i64 n] w fun e w' => e = .returned (.bool false) ∧ w = w' :=
  (isCount_any n w).mono fun _ _ ⟨he, hw⟩ => ⟨by rw [he, h], hw⟩

set_option maxRecDepth 20000 in
set_option maxHeartbeats 400000 in
theorem num_any (S : Nat → Prop) (A : Option Addr) (n c : Nat) (bs : List UInt8) (m : Int) (w : World) (hs : SlB w S A n bs) (hn : n ≤ 1000000000000) (h0 : -9223372036854775808 ≤ m) (h1 : m ≤ 9223372036854775807) :
    Calls Try.prog 32 #[.slice A n c, .int .i64 m] w (RetB w (bs ++ grp (zig m))) := by
  have HN := Lib.hid hn
  have H0 := Lib.hid h0
  have H1 := Lib.hid h1
  clear hn h0 h1
  go_enter Try.func32, Try.ntmps32
  go_wp2_with (first
    | (go_at_call 49; go_loud (refine (own_any S A n c bs _ 10 rfl _ hs (by have := HN.out; omega)).mono ?_); rintro e w1 ⟨v1, rfl, hown1, hb1⟩)
    | (go_at_call 60; go_loud (refine (fold_any m _ H0.out H1.out).mono ?_); rintro e w2 ⟨rfl, rfl⟩)
    | (go_at_call 59; go_loud (refine (addGroups_any w.heap.size v1 bs (zig m) _ hown1 hb1.size (by have := HN.out; have := hs.len; omega) (zig_lt H0.out H1.out)).mono ?_); rintro e w3 ⟨v3, rfl, hown3, hg3, hat3⟩))
  go_ret
  exact ⟨v3, rfl, hown3, hb1.grown hg3 hb1.size fun k hk => (hown1.lt k hk).1⟩

theorem OwB.form {w : World} {base n : Nat} {v : Value} {bs : List UInt8} (h : OwB w base v bs) (hn : bs.length = n) : ∃ A c, v = .slice A n c ∧ n ≤ c ∧ SlB w (fun k => base ≤ k) A n bs := by
  subst hn
  obtain ⟨A, c, rfl, hc, _⟩ := own_form h
  exact ⟨A, c, rfl, hc, (Sl.of_own h).weaken fun k _ hk => hk.1⟩
theorem OwB.lt {w : World} {base : Nat} {v : Value} {bs : List UInt8} (h : OwB w base v bs) : ∀ k, v.ownBlock = some k → base ≤ k ∧ k < w.heap.size := World.ownsRow.lt h

/-- A count's bytes; none, if it is no count. -/
def cntB (m : Int) : List UInt8 := if isC m then grp m.toNat else []
theorem cntB_nat {k : Nat} (h : k ≤ 2147483647) : cntB (k : Int) = grp k := by unfold cntB; rw [if_pos (isC_iff.2 (by omega))]; rfl
theorem cntB_no {m : Int} (h : isC m = false) : cntB m = [] := by unfold cntB; rw [h]; rfl

set_option maxRecDepth 20000 in
set_option maxHeartbeats 400000 in
theorem count_any (S : Nat → Prop) (A : Option Addr) (n c : Nat) (bs : List UInt8) (m : Int) (w : World) (hs : SlB w S A n bs) (hn : n ≤ 1000000000000) :
    Calls Try.prog 33 #[.slice A n c, .int .i64 m] w (RetB w (bs ++ cntB m)) := by
  have HN := Lib.hid hn
  clear hn
  by_cases h : isC m = true
  · obtain ⟨h0, h1⟩ := isC_iff.1 h
    have H0 := Lib.hid h0
    have H1 := Lib.hid h1
    have H := Lib.hid h
    obtain ⟨k, rfl⟩ := Int.eq_ofNat_of_zero_le h0
    clear h h0
    go_enter Try.func33, Try.ntmps33
    go_wp2_with (first
      | (go_at_call 61; go_loud (refine (isCount_yes _ H.out).mono ?_); rintro e w2 ⟨rfl, rfl⟩)
      | (go_at_call 49; go_loud (refine (own_any S A n c bs _ 5 rfl _ hs (by have := HN.out; omega)).mono ?_); rintro e w1 ⟨v1, rfl, hown1, hb1⟩)
      | (go_at_call 59; go_loud (refine (addGroups_any w.heap.size v1 bs k _ hown1 hb1.size (by have := HN.out; have := hs.len; omega) (by have := H1.out; omega)).mono ?_); rintro e w3 ⟨v3, rfl, hown3, hg3, hat3⟩))
    go_ret
    exact ⟨v3, rfl, by rw [cntB_nat (by omega)]; exact hown3, hb1.grown hg3 hb1.size fun k hk => (hown1.lt k hk).1⟩
  · have H := Lib.hid (Bool.eq_false_iff.2 h)
    clear h
    go_enter Try.func33, Try.ntmps33
    go_wp2_with (first
      | (go_at_call 61; go_loud (refine (isCount_no _ H.out).mono ?_); rintro e w2 ⟨rfl, rfl⟩)
      | (go_at_call 49; go_loud (refine (own_any S A n c bs _ 0 rfl _ hs (by have := HN.out; omega)).mono ?_); rintro e w1 ⟨v1, rfl, hown1, hb1⟩))
    go_ret
    exact ⟨v1, rfl, by rw [cntB_no H.out, List.append_nil]; exact hown1, hb1⟩

/-- A truth value's byte. -/
def flagB (v : Bool) : List UInt8 := if v then [1] else [0]

set_option maxRecDepth 20000 in
set_option maxHeartbeats 400000 in
theorem flag_any (S : Nat → Prop) (A : Option Addr) (n c : Nat) (bs : List UInt8) (v : Bool) (w : World) (hs : SlB w S A n bs) (hn : n ≤ 1000000000000) :
    Calls Try.prog 35 #[.slice A n c, .bool v] w (RetB w (bs ++ flagB v)) := by
  have HN := Lib.hid hn
  clear hn
  cases v
  all_goals
    go_enter Try.func35, Try.ntmps35
    go_wp2_with (first
      | (go_at_call 49; go_loud (refine (own_any S A n c bs _ 1 rfl _ hs (by have := HN.out; omega)).mono ?_); rintro e w1 ⟨v1, rfl, hown1, hb1⟩)
      | (at_builtin; go_loud (refine wpList_app _ rfl (.tmp 8) (.tmp 10) _ rfl w.heap.size 5 _ 1 1 Try.underlying32 info_u8 rfl (by decide) v1 bs.length _ rfl (hown1.alloc _) Any _ 1 1 _ rfl (Sl.lit _ _ _) (by intro u hu; simp at hu; subst hu; rfl) (by have := HN.out; have := hs.len; unfold maxLen; omega) (by have := HN.out; have := hs.len; omega) (by have := hb1.size; simp; omega) ?_); intro v2 w2 hown2 hg2 hat2))
    go_ret
    refine ⟨v2, rfl, ?_, (hb1.alloc hb1.size _).grown hg2 (by have := hb1.size; simp; omega) fun k hk => (hown1.lt k hk).1⟩
    simpa [OwB, flagB, byteV] using hown2

set_option maxRecDepth 20000 in
set_option maxHeartbeats 400000 in
theorem str_any (S : Nat → Prop) (A : Option Addr) (n c : Nat) (bs : List UInt8) (s : ByteArray) (w : World) (hs : SlB w S A n bs) (hn : n ≤ 1000000000000) (hl : s.size ≤ 2147483647) :
    Calls Try.prog 34 #[.slice A n c, .string s] w (RetB w (bs ++ grp s.size ++ s.data.toList)) := by
  have HN := Lib.hid hn
  have HL := Lib.hid hl
  have hc := Lib.hid (isC_iff.2 (show 0 ≤ (s.size : Int) ∧ (s.size : Int) ≤ 2147483647 by omega))
  have hG := Lib.hid (grp_len (k := 10) (by omega) (u := s.size) (by omega))
  obtain ⟨i0, hi0, hz0, hz1, hz2⟩ := info_parts info_u8
  clear hn
  go_enter Try.func34, Try.ntmps34
  go_wp2_with (first
    | (go_at_call 61; go_loud (refine (isCount_yes _ hc.out).mono ?_); rintro e w2 ⟨rfl, rfl⟩)
    | (go_at_call 49; go_loud (refine (own_any S A n c bs _ (5 + s.size) (by omega) _ hs (by have := HN.out; omega)).mono ?_); rintro e w1 ⟨v1, rfl, hown1, hb1⟩)
    | (go_at_call 59; go_loud (refine (addGroups_any w.heap.size v1 bs s.size _ hown1 hb1.size (by have := HN.out; have := hs.len; omega) (by have := HL.out; omega)).mono ?_); rintro e w3 ⟨v3, rfl, hown3, hg3, hat3⟩)
    | (at_builtin; go_loud (refine Lib.wpList_append_own_string _ rfl (.tmp 21) (.tmp 22) _ _ rfl w.heap.size 5 i0 Try.underlying32 Try.underlying9 hi0 hz0 hz1 hz2 v3 (bs ++ grp s.size).length _ rfl hown3 s rfl (by have := HN.out; have := HL.out; have := hs.len; have := hG.out; rw [List.length_append]; unfold maxLen; omega) (by have := HN.out; have := HL.out; have := hs.len; have := hG.out; rw [List.length_append]; omega) (by have := hb1.size; have := hg3.size; omega) ?_); intro v4 w4 hown4 hg4 hn4))
  go_ret
  refine ⟨v4, rfl, ?_, ((hb1.grown hg3 hb1.size fun k hk => (hown1.lt k hk).1)).grown hg4 (by have := hb1.size; have := hg3.size; omega) fun k hk => (hown3.lt k hk).1⟩
  unfold OwB
  rw [List.length_append, List.map_append, Array.length_toList]
  exact hown4

end Go.Proofs.Ytafdglicbddicaa

/- What the functions of package code that take things off bytes do: the looks. -/
import Derived.Test.YtafdglicbddicaaCodeA
import Derived.Lib.EndianBits
import Derived.Lib.BufferRead
import Derived.Laws.IdiomStrings
namespace Go.Proofs.Ytafdglicbddicaa
open Go.RowKit

theorem gat_step {bs : List UInt8} {i u : Nat} (hi : i < bs.length) (HE : gGo i u (bs.drop i) = gat bs) :
    gat bs = if i = 9 ∧ 1 < bs[i].toNat then (0, 0) else if 128 ≤ bs[i].toNat then gGo (i + 1) (u + bs[i].toNat % 128 * 128 ^ i) (bs.drop (i + 1))
      else if bs[i].toNat = 0 ∧ 0 < i then (0, 0) else (u + bs[i].toNat % 128 * 128 ^ i, i + 1) := by
  rw [← HE, List.drop_eq_getElem_cons hi]
  rfl
theorem gat_end {bs : List UInt8} {i u : Nat} (hi : bs.length ≤ i) (HE : gGo i u (bs.drop i) = gat bs) : gat bs = (0, 0) := by
  rw [← HE, List.drop_eq_nil_of_le hi]
  rfl

theorem pow128 (i : Nat) : (128 : Nat) ^ i = 2 ^ (7 * i) := by rw [Nat.pow_mul]
theorem or_grp {acc k i : Nat} (hi : i ≤ 9) (ha : acc < 128 ^ i) (h : k % 128 * 128 ^ i < 18446744073709551616) :
    bits .or .u64 (acc : Int) (IntKind.u64.wrap ((k : Int) % 128 * 2 ^ (7 * i))) = ((acc + k % 128 * 128 ^ i : Nat) : Int) := by
  have e : ((k : Int) % 128 * 2 ^ (7 * i)) = ((k % 128 * 128 ^ i : Nat) : Int) := by rw [pow128]; push_cast; rfl
  rw [e, wrap_u64 (by omega) (by omega)]
  have h9 : 128 ^ i ≤ 128 ^ 9 := Nat.pow_le_pow_right (by omega) hi
  rw [bits_join_low .u64 64 (by decide) wraps_u64 (7 * i) (acc : Int) _ (by omega) (by rw [pow128] at ha; exact_mod_cast ha) (by omega) (by omega) (by rw [pow128]; push_cast; exact Int.mul_emod_left _ _) (by omega)]
  push_cast
  rfl

set_option maxRecDepth 20000 in
set_option maxHeartbeats 1000000 in
theorem groupsAt_any (S : Nat → Prop) (A : Option Addr) (n c : Nat) (bs : List UInt8) (w : World) (hs : SlB w S A n bs) (hn : n ≤ 1000000000000) :
    Calls Try.prog 64 #[.slice A n c] w fun e w' => e = .returned (.tuple #[.int .u64 ((gat bs).1 : Int), .int .i64 ((gat bs).2 : Int)]) ∧ w = w' := by
  go_enter Try.func64, Try.ntmps64
  go_wp2
  go_loop [4, 9] (fun u t => ∃ i acc : Nat, i ≤ n ∧ i ≤ 9 ∧ t = .int .i64 (i : Int) ∧ u = .int .u64 (acc : Int) ∧ Hid (gGo i acc (bs.drop i) = gat bs) ∧ Hid (acc < 128 ^ i)) (fun _ t => n - (intOf t).toNat)
  case atStart => exact ⟨0, 0, by omega, by omega, rfl, rfl, Lib.hid rfl, Lib.hid (by decide)⟩
  case round =>
    obtain ⟨i, acc, hin, hi9, rfl, rfl, HE, HA⟩ := hrel
    by_cases hlt : i < n
    · have hl : i < bs.length := by rw [hs.len]; exact hlt
      have G := Lib.hid (gat_step hl HE.out)
      obtain ⟨ad, rfl, hb, hc⟩ := hs.at_ hlt
      obtain ⟨k, hk⟩ : ∃ k, k = bs[i].toNat := ⟨_, rfl⟩
      have hk256 : k < 256 := by rw [hk]; exact bs[i].toNat_lt
      rw [← hk] at hc G
      clear hk hb
      by_cases h1 : i = 9 ∧ 1 < k
      · have hg : Hid (gat bs = (0, 0)) := Lib.hid (by rw [G.out, if_pos h1])
        have h9 : 9 ≤ i := by omega
        have h1' : 1 < k := h1.2
        clear h1
        go_wp2
        all_goals (go_ret2; exact ⟨ret_tup2 (by rw [hg.out]; rfl) (by rw [hg.out]; rfl), rfl⟩)
      · by_cases h2 : 128 ≤ k
        · have hi8 : i < 9 := by omega
          have hmul := Lib.hid (show k % 128 * 128 ^ i ≤ 127 * 128 ^ 8 from Nat.mul_le_mul (by omega) (Nat.pow_le_pow_right (by omega) (by omega)))
          have horg := Lib.hid (or_grp (k := k) hi9 HA.out (by have := hmul.out; omega))
          go_wp2
          all_goals
            go_round
            case rel =>
              refine ⟨i + 1, acc + k % 128 * 128 ^ i, by omega, by omega, by go_num, vint horg.out, ?_, ?_⟩
              · exact Lib.hid (by rw [G.out, if_neg h1, if_pos h2])
              · refine Lib.hid ?_
                have := HA.out
                have h7 : k % 128 * 128 ^ i ≤ 127 * 128 ^ i := Nat.mul_le_mul_right _ (by omega)
                rw [Nat.pow_succ]
                omega
            case measure => simp [intOf]; omega
        · by_cases h3 : k = 0 ∧ 0 < i
          · have hg : Hid (gat bs = (0, 0)) := Lib.hid (by rw [G.out, if_neg h1, if_neg h2, if_pos h3])
            have hk1 : k < 1 := by omega
            have h3' : 0 < i := h3.2
            have h1' : i < 9 ∨ k ≤ 1 := by omega
            clear h3 h1
            go_wp2
            all_goals (go_ret2; exact ⟨ret_tup2 (by rw [hg.out]; rfl) (by rw [hg.out]; rfl), rfl⟩)
          · have horg : Hid (bits .or .u64 (acc : Int) (IntKind.u64.wrap ((k : Int) % 128 * 2 ^ (7 * i))) = ((acc + k % 128 * 128 ^ i : Nat) : Int)) := by
              refine Lib.hid (or_grp (k := k) hi9 HA.out ?_)
              by_cases h9 : i = 9
              · subst h9
                have : k % 128 * 128 ^ 9 ≤ 1 * 128 ^ 9 := Nat.mul_le_mul_right _ (by omega)
                omega
              · have : k % 128 * 128 ^ i ≤ 127 * 128 ^ 8 := Nat.mul_le_mul (by omega) (Nat.pow_le_pow_right (by omega) (by omega))
                omega
            have hg : Hid (gat bs = (acc + k % 128 * 128 ^ i, i + 1)) := Lib.hid (by rw [G.out, if_neg h1, if_neg h2, if_neg h3])
            rcases Nat.lt_or_ge i 9 with h9 | h9
            all_goals rcases Nat.lt_or_ge k 1 with hk1 | hk1
            all_goals try have hi1 : i < 1 := by omega
            all_goals try have hk2 : k ≤ 1 := by omega
            all_goals first | have e9 : ((i : Int) == 9) = true := by simp; omega
                            | have e9 : ((i : Int) == 9) = false := by simp; omega
            all_goals first | have ek : ((k : Int) == 0) = true := by simp; omega
                            | have ek : ((k : Int) == 0) = false := by simp; omega
            all_goals
              have H1 := Lib.hid h1
              have H3 := Lib.hid h3
              clear h1 h3
              go_wp2
            all_goals
              go_ret2
              exact ⟨ret_tup2 (by rw [hg.out]; exact horg.out) (by rw [hg.out]; simp), rfl⟩
    · have hg : Hid (gat bs = (0, 0)) := Lib.hid (gat_end (by rw [hs.len]; omega) HE.out)
      go_wp2
      go_ret2
      exact ⟨ret_tup2 (by rw [hg.out]; rfl) (by rw [hg.out]; rfl), rfl⟩

theorem unz_e {u : Nat} (h : u % 2 = 0) (hu : u < 18446744073709551616) : wrap64 (IntKind.u64.wrap ((u : Int) / 2)) = unz u := by
  rw [wrap_u64 (by omega) (by omega)]
  unfold unz wrap64
  rw [if_neg (by omega)]
  omega
theorem unz_o {u : Nat} (h : u % 2 = 1) (hu : u < 18446744073709551616) : wrap64 (-1 - wrap64 (IntKind.u64.wrap ((u : Int) / 2))) = unz u := by
  rw [wrap_u64 (by omega) (by omega)]
  unfold unz wrap64
  rw [if_pos (by omega)]
  omega

set_option maxRecDepth 20000 in
set_option maxHeartbeats 400000 in
theorem unfold_any (u : Nat) (w : World) (hu : u < 18446744073709551616) : Calls Try.prog 65 #[.int .u64 (u : Int)] w fun e w' => e = .returned (.int .i64 (unz u)) ∧ w = w' := by
  have HU := Lib.hid hu
  clear hu
  rcases Nat.mod_two_eq_zero_or_one u with h | h
  · have e1 : (((u : Int) % 2) == 1) = false := by simp; omega
    have H := Lib.hid h
    clear h
    go_enter Try.func65, Try.ntmps65
    go_wp2
    go_ret
    exact ⟨ret_int (unz_e H.out HU.out), rfl⟩
  · have e1 : (((u : Int) % 2) == 1) = true := by simp; omega
    have H := Lib.hid h
    clear h
    go_enter Try.func65, Try.ntmps65
    go_wp2
    go_ret
    exact ⟨ret_int (unz_o H.out HU.out), rfl⟩

set_option maxRecDepth 20000 in
set_option maxHeartbeats 400000 in
theorem numAt_any (S : Nat → Prop) (A : Option Addr) (n c : Nat) (bs : List UInt8) (w : World) (hs : SlB w S A n bs) (hn : n ≤ 1000000000000) :
    Calls Try.prog 40 #[.slice A n c] w fun e w' => e = .returned (.tuple #[.int .i64 (unz (gat bs).1), .int .i64 ((gat bs).2 : Int)]) ∧ w = w' := by
  have HN := Lib.hid hn
  clear hn
  go_enter Try.func40, Try.ntmps40
  go_wp2_with (first
    | (go_at_call 64; go_loud (refine (groupsAt_any S A n c bs _ hs HN.out).mono ?_); rintro e w1 ⟨rfl, rfl⟩)
    | (go_at_call 65; go_loud (refine (unfold_any _ _ (gat_lt bs)).mono ?_); rintro e w1 ⟨rfl, rfl⟩))
  go_ret2
  exact ⟨rfl, rfl⟩

set_option maxRecDepth 20000 in
set_option maxHeartbeats 400000 in
theorem countAt_any (S : Nat → Prop) (A : Option Addr) (n c : Nat) (bs : List UInt8) (most : Int) (w : World) (hs : SlB w S A n bs) (hn : n ≤ 1000000000000) (h0 : -9223372036854775808 ≤ most) (h1 : most ≤ 9223372036854775807) :
    Calls Try.prog 43 #[.slice A n c, .int .i64 most] w fun e w' => e = .returned (.tuple #[.int .i64 ((cAt bs most).1 : Int), .int .i64 ((cAt bs most).2 : Int)]) ∧ w = w' := by
  have HN := Lib.hid hn
  have HL := Lib.hid (gat_lt bs)
  have HG := Lib.hid (groupsAt_any S A n c bs w hs hn)
  have hy := Lib.hid (@cAt_yes bs most)
  have hno := Lib.hid (@cAt_no bs most)
  clear hn
  obtain ⟨u, k, hu⟩ : ∃ u k, gat bs = (u, k) := ⟨_, _, rfl⟩
  rw [hu] at HL hy hno HG
  clear hu
  rcases Int.lt_or_le most 0 with hm | hm
  · have hc := Lib.hid (hno.out (.inl hm))
    go_enter Try.func43, Try.ntmps43
    go_wp2_with (go_at_call 64; go_loud (refine HG.out.mono ?_); rintro e w1 ⟨rfl, rfl⟩)
    all_goals (go_ret2; exact ⟨ret_tup2 (by rw [hc.out]; try rfl) (by rw [hc.out]; try rfl), rfl⟩)
  · rcases Int.lt_or_le most u with hu | hu
    · have hc := Lib.hid (hno.out (.inr (.inl hu)))
      go_enter Try.func43, Try.ntmps43
      go_wp2_with (go_at_call 64; go_loud (refine HG.out.mono ?_); rintro e w1 ⟨rfl, rfl⟩)
      all_goals (go_ret2; exact ⟨ret_tup2 (by rw [hc.out]; try rfl) (by rw [hc.out]; try rfl), rfl⟩)
    · rcases Nat.lt_or_ge 2147483647 u with hv | hv
      · have hc := Lib.hid (hno.out (.inr (.inr hv)))
        go_enter Try.func43, Try.ntmps43
        go_wp2_with (go_at_call 64; go_loud (refine HG.out.mono ?_); rintro e w1 ⟨rfl, rfl⟩)
        all_goals (go_ret2; exact ⟨ret_tup2 (by rw [hc.out]; try rfl) (by rw [hc.out]; try rfl), rfl⟩)
      · have hc := Lib.hid (hy.out hm hu hv)
        go_enter Try.func43, Try.ntmps43
        go_wp2_with (go_at_call 64; go_loud (refine HG.out.mono ?_); rintro e w1 ⟨rfl, rfl⟩)
        all_goals (go_ret2; exact ⟨ret_tup2 (by rw [hc.out]; try rfl) (by rw [hc.out]; try rfl), rfl⟩)

theorem byte_one (b : UInt8) : ((b.toNat : Int) == 1) = (b == 1) := by
  rw [Bool.eq_iff_iff]
  simp [← UInt8.toNat_inj]
  omega

set_option maxRecDepth 20000 in
set_option maxHeartbeats 400000 in
theorem flagAt_any (S : Nat → Prop) (A : Option Addr) (n c : Nat) (bs : List UInt8) (w : World) (hs : SlB w S A n bs) (hn : n ≤ 1000000000000) :
    Calls Try.prog 48 #[.slice A n c] w fun e w' => e = .returned (.tuple #[.bool (fAt bs).1, .int .i64 ((fAt bs).2 : Int)]) ∧ w = w' := by
  cases bs with
  | nil =>
    have hn0 : n = 0 := hs.len.symm
    subst hn0
    go_enter Try.func48, Try.ntmps48
    go_wp2
    go_ret2
    exact ⟨rfl, rfl⟩
  | cons b r =>
    have h0 : 0 < n := by have := hs.len; simp at this; omega
    obtain ⟨ad, rfl, _, hc⟩ := hs.at_ h0
    simp only [List.getElem_cons_zero, add_zero] at hc
    have hf := Lib.hid (show fAt (b :: r) = if 1 < b.toNat then (false, 0) else (b == 1, 1) from rfl)
    have e0 : ((n : Int) == 0) = false := by simp; omega
    clear hs
    rcases Nat.lt_or_ge 1 b.toNat with h1 | h1
    · go_enter Try.func48, Try.ntmps48
      go_wp2
      go_ret2
      exact ⟨ret_bi (by rw [hf.out, if_pos h1]) (by rw [hf.out, if_pos h1]; rfl), rfl⟩
    · go_enter Try.func48, Try.ntmps48
      go_wp2
      go_ret2
      exact ⟨ret_bi (by rw [hf.out, if_neg (by omega)]; exact byte_one b) (by rw [hf.out, if_neg (by omega)]; rfl), rfl⟩

theorem run_str {P : Program} {w : World} {S : Nat → Prop} {A : Option Addr} {n : Nat} {bs : List UInt8} (src dst e : TypeId) (hs : P.underlying src = some (.slice e)) (he : P.underlying e = some (.int .u8)) (hd : P.underlying dst = some .string)
    (h : SlB w S A n bs) (c : Nat) : (convert src dst (.slice A n c)).run P w = .ok (.string ⟨bs.toArray⟩) w := by
  have hl := h.len
  rcases A with _ | ad
  · rcases Nat.eq_zero_or_pos n with rfl | h0
    · have hb : bs = [] := List.eq_nil_of_length_eq_zero hl
      subst hb
      exact Lib.run_convert_nil_bytes w src dst e c hs he hd
    · obtain ⟨ad, hA, _⟩ := h.at_ h0
      cases hA
  · subst hl
    refine run_convert_bytes_back w src dst e ad c bs hs he hd fun j hj => ?_
    obtain ⟨ad', hA, _, hc⟩ := h.at_ hj
    injection hA with hA
    subst hA
    exact hc

theorem wpList_str {P : Program} (w : World) {ops : Array Oper} {rest : List Oper} {o : Oper} {a : Act} {Q : Exit → Act → World → Prop} (hgd : o.guard = none) (x : Operand) (src dst : TypeId)
    (ho : o.op = .convert src dst x) (e : TypeId) (hs : P.underlying src = some (.slice e)) (he : P.underlying e = some (.int .u8)) (hd : P.underlying dst = some .string)
    (S : Nat → Prop) (A : Option Addr) (n c : Nat) (bs : List UInt8) (hx : a.eval x = .slice A n c) (h : SlB w S A n bs)
    (hK : wpList P ops Q rest (a.put o.dst (.string ⟨bs.toArray⟩)) w) : wpList P ops Q (o :: rest) a w := by
  refine wpList_plain hgd fun K hK' => ?_
  have hrun := run_str (P := P) src dst e hs he hd h c
  unfold Oper.wp
  simp only [execOp, ho, hx, Sem.run_bind, hrun, Result.andThen_ok, Sem.run_pure]
  exact hK' _ _ hK

set_option maxRecDepth 20000 in
set_option maxHeartbeats 400000 in
theorem strAt_any (S : Nat → Prop) (A : Option Addr) (n c : Nat) (bs : List UInt8) (most : Int) (w : World) (hs : SlB w S A n bs) (hn : n ≤ 1000000000000) (hcap : n ≤ c) (h0 : -9223372036854775808 ≤ most) (h1 : most ≤ 9223372036854775807) :
    Calls Try.prog 46 #[.slice A n c, .int .i64 most] w fun e w' => e = .returned (.tuple #[.string ⟨(sAt bs most).1.toArray⟩, .int .i64 ((sAt bs most).2 : Int)]) ∧ w = w' := by
  have HG := Lib.hid (countAt_any S A n c bs most w hs hn h0 h1)
  have hle := cAt_le bs most
  have hS := Lib.hid (fun m hd => @sAt_eq bs most m hd)
  have hlen := hs.len
  obtain ⟨m, hd, hu⟩ : ∃ u k, cAt bs most = (u, k) := ⟨_, _, rfl⟩
  rw [hu] at hle HG
  replace hS := Lib.hid (hS.out m hd hu)
  clear hu
  obtain ⟨l1, l2, l3⟩ := hle
  simp only at l1 l2 l3
  rw [hlen] at l3
  have HL := Lib.hid hlen
  clear hlen h0 h1
  by_cases hz : hd = 0
  · subst hz
    go_enter Try.func46, Try.ntmps46
    go_wp2_with (go_at_call 43; go_loud (refine HG.out.mono ?_); rintro e w1 ⟨rfl, rfl⟩)
    go_ret2
    exact ⟨ret_si (by rw [hS.out, if_pos (by simp)]) (by rw [hS.out, if_pos (by simp)]; rfl), rfl⟩
  · have hp : 0 < hd := by omega
    have e0 : ((hd : Int) == 0) = false := by simp; omega
    clear hz
    rcases Nat.lt_or_ge n (hd + m) with hlt | hge
    all_goals try simp only [ge_iff_le] at hge
    · go_enter Try.func46, Try.ntmps46
      go_wp2_with (go_at_call 43; go_loud (refine HG.out.mono ?_); rintro e w1 ⟨rfl, rfl⟩)
      go_ret2
      exact ⟨ret_si (by rw [hS.out, if_pos (.inr (by rw [HL.out]; exact hlt))]) (by rw [hS.out, if_pos (.inr (by rw [HL.out]; exact hlt))]; rfl), rfl⟩
    · go_enter Try.func46, Try.ntmps46
      go_wp2_with (first
        | (go_at_call 43; go_loud (refine HG.out.mono ?_); rintro e w1 ⟨rfl, rfl⟩)
        | ((refine wpList_str (o := ⟨some 30, _, _, _, _, _⟩) _ rfl (.tmp 29) 32 9 rfl 5 Try.underlying32 Try.underlying5 Try.underlying9 S _ (hd + m - hd) _ ((bs.drop hd).take m) rfl (hs.win hge hcap) ?_)))
      all_goals go_ret2
      all_goals exact ⟨ret_si (by rw [hS.out, if_neg (by rw [HL.out]; omega)]) (by rw [hS.out, if_neg (by rw [HL.out]; omega)]; simp), rfl⟩

end Go.Proofs.Ytafdglicbddicaa

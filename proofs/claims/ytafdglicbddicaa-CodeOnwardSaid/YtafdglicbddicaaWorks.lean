/- bastionlaw01.works answers true: what each statement of layer 1 asks first. -/
import Derived.Test.YtafdglicbddicaaCodeD
namespace Go.Proofs.Ytafdglicbddicaa
open Go.RowKit

theorem cnt300 : cntB 300 = [172, 2] := by
  rw [show (300 : Int) = ((300 : Nat) : Int) from rfl, cntB_nat (by omega), grp_ge (by omega), grp_lt (by omega)]; rfl
theorem grp2 : grp 2 = [2] := by rw [grp_lt (by omega)]; rfl
theorem grp_m3 : grp (zig (-3)) = [5] := by rw [show zig (-3) = 5 from rfl, grp_lt (by omega)]; rfl

def noS : ByteArray := ⟨#[110, 111]⟩
def L7 : List UInt8 := [172, 2, 2, 110, 111, 5, 0]

theorem w_count (w : World) : Calls Try.prog 33 #[.slice none 0 0, .int .i64 300] w (RetB w [172, 2]) := by
  have h := count_any Any none 0 0 [] 300 w Sl.nil_ (by omega)
  rwa [cnt300] at h
theorem w_str (w : World) (A : Option Addr) (c : Nat) (S : Nat → Prop) (hs : SlB w S A 2 [172, 2]) : Calls Try.prog 34 #[.slice A 2 c, .string ⟨#[110, 111]⟩] w (RetB w [172, 2, 2, 110, 111]) := by
  have h := str_any S A 2 c _ ⟨#[110, 111]⟩ w hs (by omega) (by decide)
  rwa [show (ByteArray.mk #[110, 111]).size = 2 from rfl, grp2] at h
theorem w_num (w : World) (A : Option Addr) (c : Nat) (S : Nat → Prop) (hs : SlB w S A 5 [172, 2, 2, 110, 111]) : Calls Try.prog 32 #[.slice A 5 c, .int .i64 (-3)] w (RetB w [172, 2, 2, 110, 111, 5]) := by
  have h := num_any S A 5 c _ (-3) w hs (by omega) (by omega) (by omega)
  rwa [grp_m3] at h
theorem w_flag (w : World) (A : Option Addr) (c : Nat) (S : Nat → Prop) (hs : SlB w S A 6 [172, 2, 2, 110, 111, 5]) : Calls Try.prog 35 #[.slice A 6 c, .bool false] w (RetB w L7) :=
  flag_any S A 6 c _ false w hs (by omega)
theorem r_count (w : World) (g : Nat) {lo : Nat} (hr : Rdr w g lo L7 false) : Calls Try.prog 16 #[.pointer (some ⟨g, 0, none⟩), .int .i64 300] w (Took w g lo (.int .i64 300) ([2, 110, 111, 5, 0], false)) := by
  have h := rCount_any w g L7 false 300 hr (by omega) (by omega)
  rwa [show cAt L7 300 = (300, 2) by decide] at h
theorem r_str (w : World) (g : Nat) {lo : Nat} (hr : Rdr w g lo [2, 110, 111, 5, 0] false) : Calls Try.prog 17 #[.pointer (some ⟨g, 0, none⟩), .int .i64 2] w (Took w g lo (.string ⟨#[110, 111]⟩) ([5, 0], false)) := by
  have h := rStr_any w g _ false 2 hr (by omega) (by omega)
  rwa [show sAt [2, 110, 111, 5, 0] 2 = ([110, 111], 3) by decide] at h
theorem r_num (w : World) (g : Nat) {lo : Nat} (hr : Rdr w g lo [5, 0] false) : Calls Try.prog 15 #[.pointer (some ⟨g, 0, none⟩)] w (Took w g lo (.int .i64 (-3)) ([0], false)) := by
  have h := rNum_any w g _ false hr
  rwa [show gat [5, 0] = (5, 1) by decide] at h
theorem r_flag (w : World) (g : Nat) {lo : Nat} (hr : Rdr w g lo [0] false) : Calls Try.prog 18 #[.pointer (some ⟨g, 0, none⟩)] w (Took w g lo (.bool false) ([], false)) := by
  have h := rFlag_any w g _ false hr
  rwa [show fAt [0] = (false, 1) by decide] at h
theorem r_left (w : World) (g : Nat) {lo : Nat} (hr : Rdr w g lo [2, 110, 111, 5, 0] false) : Calls Try.prog 14 #[.pointer (some ⟨g, 0, none⟩)] w fun e w' => e = .returned (.int .i64 5) ∧ w = w' := left_any w g _ false hr
theorem r_done (w : World) (g : Nat) {lo : Nat} (hr : Rdr w g lo [] false) : Calls Try.prog 13 #[.pointer (some ⟨g, 0, none⟩)] w fun e w' => e = .returned (.bool true) ∧ w = w' := done_any w g _ false hr

set_option maxRecDepth 20000 in
set_option maxHeartbeats 1000000 in
theorem works_any (w : World) : Calls Try.prog 11 #[] w fun e w' => e = .returned (.bool true) ∧ Below w.heap.size w w' := by
  go_enter Try.func11, Try.ntmps11
  go_wp2_with (first
    | (go_at_call 33; go_loud (refine (w_count _).mono ?_); rintro e w1 ⟨v1, rfl, hown1, hb1⟩; obtain ⟨A1, c1, rfl, hc1, hs1⟩ := hown1.form (n := 2) rfl)
    | (go_at_call 34; go_loud (refine (w_str _ A1 c1 _ hs1).mono ?_); rintro e w2 ⟨v2, rfl, hown2, hb2⟩; obtain ⟨A2, c2, rfl, hc2, hs2⟩ := hown2.form (n := 5) rfl)
    | (go_at_call 32; go_loud (refine (w_num _ A2 c2 _ hs2).mono ?_); rintro e w3 ⟨v3, rfl, hown3, hb3⟩; obtain ⟨A3, c3, rfl, hc3, hs3⟩ := hown3.form (n := 6) rfl)
    | (go_at_call 35; go_loud (refine (w_flag _ A3 c3 _ hs3).mono ?_); rintro e w4 ⟨v4, rfl, hown4, hb4⟩; obtain ⟨A4, c4, rfl, hc4, hs4⟩ := hown4.form (n := 7) rfl)
    | (go_at_call 21; go_loud (refine (newReader_any _ A4 7 c4 L7 _ hs4 (by omega)).mono ?_); rintro e w5 ⟨g, rfl, hr5, hgb, hb5⟩; have hs5 := hs4.below_all hb5)
    | ((with_reducible show wpList _ _ _ (⟨_, Op.convert _ _ _, _, _, _, _⟩ :: _) _ _); (refine wpList_str (o := ⟨some 10, _, _, _, _, _⟩) _ rfl (.tmp 9) 32 9 rfl 5 Try.underlying32 Try.underlying5 Try.underlying9 _ _ 7 _ L7 rfl hs5 ?_))
    | (go_at_call 16; go_loud (refine (r_count _ g hr5).mono ?_); rintro e w6 ⟨rfl, hr6, hg6⟩)
    | (go_at_call 14; go_loud (refine (r_left _ g hr6).mono ?_); rintro e w7 ⟨rfl, rfl⟩)
    | (go_at_call 17; go_loud (refine (r_str _ g hr6).mono ?_); rintro e w8 ⟨rfl, hr8, hg8⟩)
    | (go_at_call 15; go_loud (refine (r_num _ g hr8).mono ?_); rintro e w9 ⟨rfl, hr9, hg9⟩)
    | (go_at_call 18; go_loud (refine (r_flag _ g hr9).mono ?_); rintro e w10 ⟨rfl, hr10, hg10⟩)
    | (go_at_call 13; go_loud (refine (r_done _ g hr10).mono ?_); rintro e w11 ⟨rfl, rfl⟩))
  go_ret
  have h5 := seq (seq (seq (seq hb1 hb2) hb3) hb4) hb5
  have hgb' : w.heap.size ≤ g := Nat.le_trans (seq (seq (seq hb1 hb2) hb3) hb4).size hgb
  exact ⟨rfl, seqg (seqg (seqg (seqg h5 hg6 hgb') hg8 hgb') hg9 hgb') hg10 hgb'⟩

end Go.Proofs.Ytafdglicbddicaa

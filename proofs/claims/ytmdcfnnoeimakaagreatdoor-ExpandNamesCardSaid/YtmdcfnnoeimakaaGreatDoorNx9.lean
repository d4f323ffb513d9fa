/- ExpandNames: all pieces. -/
import Derived.Test.YtmdcfnnoeimakaaGreatDoorNx1
import Derived.Test.YtmdcfnnoeimakaaGreatDoorNx2
import Derived.Test.YtmdcfnnoeimakaaGreatDoorNx3
import Derived.Test.YtmdcfnnoeimakaaGreatDoorNx4
import Derived.Test.YtmdcfnnoeimakaaGreatDoorNx5
import Derived.Test.YtmdcfnnoeimakaaGreatDoorNx6
import Derived.Test.YtmdcfnnoeimakaaGreatDoorNx7
import Derived.Test.YtmdcfnnoeimakaaGreatDoorNx8
namespace Go.Proofs.YtmdcfnnoeimakaaGreatDoor
open Go.Am
set_option maxRecDepth 20000
theorem names_ct {L : RL} : CS Tryz.prog 3 [] L fun v L' => v = .bool true ∧ L' = L :=
  CS.pieces (fn := Tryz.f3) (c := nb0) rfl (by kernel_rfl) fun a g =>
    LQ.cut noGo mixed xtP_sound knownP_sound st1_run g fun a g => show LQ none Tryz.prog nb1 a st1.2 _ from
    LQ.cut noGo mixed xtP_sound knownP_sound st2_run g fun a g => show LQ none Tryz.prog nb2 a st2.2 _ from
    LQ.cut noGo mixed xtP_sound knownP_sound st3_run g fun a g => show LQ none Tryz.prog nb3 a st3.2 _ from
    nb3_eq ▸ LQ.cutTwice noGo mixed xtP_sound knownP_sound s40_run s41_run s42_run st4_run g fun a g => show LQ none Tryz.prog nb4 a st4.2 _ from
    LQ.cut noGo mixed xtP_sound knownP_sound st5_run g fun a g => show LQ none Tryz.prog nb5 a st5.2 _ from
    LQ.cut noGo mixed xtP_sound knownP_sound st6_run g fun a g => show LQ none Tryz.prog nb6 a st6.2 _ from
    LQ.cut noGo mixed xtP_sound knownP_sound st7_run g fun a g => show LQ none Tryz.prog nb7 a st7.2 _ from
    LQ.cut noGo mixed xtP_sound knownP_sound st8_run g fun a g => show LQ none Tryz.prog nb8 a st8.2 _ from
    LQ.endF noGo mixed xtP_sound knownP_sound st9_run g
end Go.Proofs.YtmdcfnnoeimakaaGreatDoor

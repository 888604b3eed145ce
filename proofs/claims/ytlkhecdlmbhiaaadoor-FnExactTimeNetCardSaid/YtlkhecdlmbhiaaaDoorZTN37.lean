/-
  CONTRACT of spec.TimeNet. No law is proved here.
-/
import Derived.Test.YtlkhecdlmbhiaaaDoorZTN33
import Derived.Test.YtlkhecdlmbhiaaaDoorZTN34
import Derived.Test.YtlkhecdlmbhiaaaDoorZTN35
import Derived.Test.YtlkhecdlmbhiaaaDoorZTN36
namespace Go.Proofs.YtlkhecdlmbhiaaaDoor
set_option maxRecDepth 4096
open Go.ChangeShapes Go.WideShapes Go.ChangeAt Go.RowKit
theorem specTimeNet (W H : Int) (C : ByteArray) (S G : List Int) (T : Int) (strict : Bool) (vs vg : Value) (N : Int) (A : List ArcD) (b : Bool) (hC : C.size ≤ 1048576) (hS : S.length ≤ 2000000) (hG : G.length ≤ 2000000) (HN : Hid (timeNV W H C S G T strict = N)) (HA : Hid (timeAV W H C S G T strict = A)) (HB : Hid (askV W H C S G T = b)) (w : World) (hs : Ints w vs S) (hg : Ints w vg G) :
    Calls Tryd.prog 16 #[.agg #[.int .i64 W, .int .i64 H, .string C], vs, vg, .int .i64 T, .bool strict] w (TimeBack w N A b) :=
  timeParts.all timePartA timePartB timePartC timePartD W H C S G T strict vs vg N A b hC hS hG HN HA HB w hs hg

end Go.Proofs.YtlkhecdlmbhiaaaDoor


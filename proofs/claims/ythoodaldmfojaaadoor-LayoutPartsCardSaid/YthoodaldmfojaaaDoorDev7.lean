/- The contracts of the program's own functions, in the form in which the laws' walks use them. Conditions: what the program reads (GW); the layout can be read; it has few parts. -/
import Derived.Test.YthoodaldmfojaaaDoorLine7
import Derived.Test.YthoodaldmfojaaaDoorCheck7
namespace Go.Proofs.YthoodaldmfojaaaDoor
open Go.ChangeShapes Go.WideShapes Go.ChangeAt Go.RowKit
theorem joined_any (v : Value) (L : LayD) (e s : Int) (w : World) (_ : GW w) (hv : RLay w v L) (F : FewL L) : Calls Tryd.prog 12 #[v, .agg #[.int .i64 e, .int .i64 s]] w (RetJ w (joinF (e, s) L.joints)) := joinedP_any v L e s w hv (by have := F.n3; omega)
theorem signal_any (v : Value) (L : LayD) (e s : Int) (w : World) (_ : GW w) (hv : RLay w v L) (_ : FewL L) : Calls Tryd.prog 13 #[v, .agg #[.int .i64 e, .int .i64 s]] w (RetV w (.int .i64 (sigF (e, s) 0 L.sigs))) := signalP_any v L e s w hv
theorem section_any (v : Value) (L : LayD) (e : Int) (w : World) (_ : GW w) (hv : RLay w v L) (_ : FewL L) : Calls Tryd.prog 14 #[v, .int .i64 e] w (RetV w (.int .i64 (sectionS L e))) := sectionP_any v L e w hv
theorem members_own (v : Value) (L : LayD) (s : Int) (w : World) (_ : GW w) (hv : RLay w v L) (F : FewL L) : Calls Tryd.prog 15 #[v, .int .i64 s] w (RetO w (membersS L s)) := membersP_own v L s w hv (by have := F.n2; omega)
theorem points_own (v : Value) (L : LayD) (w : World) (_ : GW w) (hv : RLay w v L) (F : FewL L) : Calls Tryd.prog 16 #[v] w (RetO w (pointF 0 L.els)) := pointsP_own v L w hv (by have := F.n2; omega)
theorem element_any (v : Value) (L : LayD) (s : L8) (w : World) (_ : GW w) (hv : RLay w v L) (_ : FewL L) (_ : s.length ≤ 9223372036854775807) : Calls Tryd.prog 17 #[v, str s] w (RetV w (.int .i64 (nameF s 0 L.els))) := elementP_any v L s w hv
end Go.Proofs.YthoodaldmfojaaaDoor

/-
 Laid together: what the law asks of these.
-/
import Derived.Lib.LaidTab
import Derived.LaidMore
import Derived.Test.YtlohgiichckjmaaGreatDoorRows
import Derived.Test.YtlohgiichckjmaaGreatDoorMx00
import Derived.Test.YtlohgiichckjmaaGreatDoorMx18
namespace Go.Proofs.YtlohgiichckjmaaGreatDoor
set_option maxHeartbeats 16000000
set_option maxRecDepth 100000
open Go.ChangeShapes Go.WideShapes Go.ChangeAt Go.RowKit Go.Deep
abbrev OrdT (w:World):Prop:=∀ k,2<=k->k<=6->w.cell? ⟨0,k,none⟩=some (.int .i64 (k:Nat))
theorem ord_data {H:Type}:(Rows.laid_splittally_world_orders:DataW H)=Lib.tabData .i64 [0,0,2,3,4,5,6]:=by kernel_rfl
theorem envO {W:World} {L:List (String × DataW Unit)} (hL:L=[("splittally/world.orders",Rows.laid_splittally_world_orders)]) (h:laidMetH Tryz.prog L W):OrdT W:=by
 subst hL
 rw [MakeChecks.laidMetH_plain _ _ _ (by kernel_rfl)] at h
 rw [ord_data] at h
 have ht:Lib.TabIs Tryz.prog W "splittally/world.orders" .i64 [0,0,2,3,4,5,6] :=
  Lib.tabIs_of_head (g:=0) (t:=151) (e:=3) (n:=7) (by kernel_rfl) (by kernel_rfl) Tryz.underlying151 Tryz.underlying3 (by kernel_rfl) (by kernel_rfl) h
 intro k h2 h6
 have hv:=World.var?_cell (show Tryz.prog.globalNamed "splittally/world.orders"=some 0 by kernel_rfl) ht k
 have hz:0=0:=rfl
 rw [hz] at hv
 rw [hv]
 have:k=2\/k=3\/k=4\/k=5\/k=6:=by omega
 rcases this with rfl|rfl|rfl|rfl|rfl<;>rfl
end Go.Proofs.YtlohgiichckjmaaGreatDoor

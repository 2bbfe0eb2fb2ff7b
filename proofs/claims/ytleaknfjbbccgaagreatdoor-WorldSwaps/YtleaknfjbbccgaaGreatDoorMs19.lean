/- Laid together. -/
import Derived.Lib.LaidTab
import Derived.LaidMore
import Derived.Test.YtleaknfjbbccgaaGreatDoorRows
import Derived.Test.YtleaknfjbbccgaaGreatDoorMs00
import Derived.Test.YtleaknfjbbccgaaGreatDoorMs18
namespace Go.Proofs.YtleaknfjbbccgaaGreatDoor
open Plain
set_option maxHeartbeats 16000000
set_option maxRecDepth 100000
open Go.ChangeShapes Go.WideShapes Go.ChangeAt Go.RowKit Go.Deep
def xY5 (fs:Array Field):Prop:=fs.size=8/\∀ (j:Nat) (f:Field),fs[j]?=some f->f.offset=j/\Tryz.prog.cellsOf f.type=1/\Tryz.prog.underlying f.type=some (.int .i64)
theorem zE7 {H:Type} {enc:TypeId × Value->H} {W:World} {d:DataW H} {p:List MemPlace} {a:Option Addr} {len cap:Nat} {t e:TypeId} {fs:Array Field}
  (ht:Tryz.prog.underlying t=some (.slice e)) (he:Tryz.prog.underlying e=some (.struct fs)) (ce:Tryz.prog.cellsOf e=8) (hf:xY5 fs)
  (h:DataW.Trod enc Tryz.prog W 0 (fun _=>true) true t (.slice a len cap) d p) :
  ∃ l:List Sp,l.length=len/\len<=9223372036854775807/\qA.Holds W a l/\∀ x,x∈l->InX x:=by
 obtain ⟨fuel,hfu⟩:=h;obtain ⟨A,hA,hlc,hcm,_,hc⟩:=zD7 ht he ce (by decide) hf.1 hf.2 hfu;have hat:∀ j,j<len->((List.range len).map (fun i=>(⟨A i 0,A i 1,A i 2,A i 3,A i 4,A i 5,A i 6,A i 7⟩:Sp))).getD j default=⟨A j 0,A j 1,A j 2,A j 3,A j 4,A j 5,A j 6,A j 7⟩:=by
  intro j hj;rw [zA,zB (by simpa using hj)];simp
 refine ⟨(List.range len).map (fun i=>⟨A i 0,A i 1,A i 2,A i 3,A i 4,A i 5,A i 6,A i 7⟩),by simp,by omega,fun h0=>?_,fun x hx=>?_⟩
 ·rw [zL,List.length_range] at h0
  obtain ⟨b,off,rfl,hb,hcell⟩:=hc h0;refine ⟨b,off,rfl,hb,fun j u hu=>?_⟩;have hj4:j<len*8:=by
   rcases Nat.lt_or_ge j (len*8) with h1|h1
   ·exact h1
   ·rw [zN (by rw [qA.vals_len,zL,List.length_range];exact h1)] at hu;cases hu
  have hd:j/8<len:=by omega
  have hm:j%8<8:=Nat.mod_lt _ (by decide);have ej:j=j/8*qA.n+j%8:=by show j=j/8*8+j%8;omega
  rw [ej,qA.vals_at default _ _ _ (by simpa using hd) hm,hat _ hd] at hu;have hcl:=hcell (j/8) (j%8) hd hm;rw [show off+j/8*8+j%8=off+j by omega] at hcl;rw [hcl,<- hu];have:j%8=0\/j%8=1\/j%8=2\/j%8=3\/j%8=4\/j%8=5\/j%8=6\/j%8=7:=by omega
  rcases this with h4|h4|h4|h4|h4|h4|h4|h4<;>rw [h4]<;>rfl
 ·obtain ⟨j,hj,rfl⟩:=zZ.1 hx
  have hj:=zY.1 hj;exact ⟨hA j 0 hj (by omega),hA j 1 hj (by omega),hA j 2 hj (by omega),hA j 3 hj (by omega),hA j 4 hj (by omega),hA j 5 hj (by omega),hA j 6 hj (by omega),hA j 7 hj (by omega)⟩
abbrev OrdT (w:World):Prop:=∀ k,2<=k->k<=6->w.cell? ⟨0,k,none⟩=some (.int .i64 (k:Nat))
theorem xM0 {H:Type}:(Rows.laid_splittally_world_orders:DataW H)=Lib.tabData .i64 [0,0,2,3,4,5,6]:=by kernel_rfl
theorem envO {W:World} {L:List (String × DataW Unit)} (hL:L=[("splittally/world.orders",Rows.laid_splittally_world_orders)]) (h:laidMetH Tryz.prog L W):OrdT W:=by
 subst hL;rw [MakeChecks.laidMetH_plain _ _ _ (by kernel_rfl)] at h;rw [xM0] at h;have ht:Lib.TabIs Tryz.prog W "splittally/world.orders" .i64 [0,0,2,3,4,5,6] :=
  Lib.tabIs_of_head (g:=0) (t:=164) (e:=3) (n:=7) (by kernel_rfl) (by kernel_rfl) Tryz.underlying164 Tryz.underlying3 (by kernel_rfl) (by kernel_rfl) h
 intro k h2 h6;have hv:=World.var?_cell (show Tryz.prog.globalNamed "splittally/world.orders"=some 0 by kernel_rfl) ht k;have hz:0=0:=rfl;rw [hz] at hv;rw [hv];have:k=2\/k=3\/k=4\/k=5\/k=6:=by omega
 rcases this with rfl|rfl|rfl|rfl|rfl<;>rfl
end Go.Proofs.YtleaknfjbbccgaaGreatDoor

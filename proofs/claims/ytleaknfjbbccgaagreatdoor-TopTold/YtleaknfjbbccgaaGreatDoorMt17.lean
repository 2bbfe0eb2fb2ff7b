/- Laid together. -/
import Derived.Below
import Derived.Shelf.Abstract
import Derived.Deep.RegionHeld3
import Derived.Deep.DeepCutAuto
import Derived.Test.YtleaknfjbbccgaaGreatDoorMt00
import Derived.Test.YtleaknfjbbccgaaGreatDoorMt09
namespace Go.Proofs.YtleaknfjbbccgaaGreatDoor.Vi
set_option maxHeartbeats 16000000
set_option maxRecDepth 100000
open Go.RowKit Go.Shelf
structure Ev where
 id:Int
 frm:Int
 dst:Int
 size:Int
 deriving Inhabited,DecidableEq
structure Sk where
 code:Int
 id:Int
 free:Int
 held:Int
 used:Int
 deriving Inhabited,DecidableEq
structure Td where
 code:Int
 who:Int
 k:Sk
 val:Int
 sent:List Ev
 frame:List Int
 report:List Int
 deriving Inhabited,DecidableEq
structure RT where
 x:Td
 ps:Option Addr
 cs:Nat
 pf:Option Addr
 cf:Nat
 pr:Option Addr
 cr:Nat
 deriving Inhabited
def RT.cell (r:RT):Nat->Value
 | 0=>.int .i64 r.x.code
 | 1=>.int .i64 r.x.who
 | 2=>.int .i64 r.x.k.code
 | 3=>.int .i64 r.x.k.id
 | 4=>.int .i64 r.x.k.free
 | 5=>.int .i64 r.x.k.held
 | 6=>.int .i64 r.x.k.used
 | 7=>.int .i64 r.x.val
 | 8=>.slice r.ps r.x.sent.length r.cs
 | 9=>.slice r.pf r.x.frame.length r.cf
 | _=>.slice r.pr r.x.report.length r.cr
def encT:Enc RT:=⟨11,fun r=>[r.cell 0,r.cell 1,r.cell 2,r.cell 3,r.cell 4,r.cell 5,r.cell 6,r.cell 7,r.cell 8,r.cell 9,r.cell 10],fun _=>rfl,fun a u hu=>by
 simp only [List.mem_cons,List.not_mem_nil,or_false] at hu;rcases hu with rfl|rfl|rfl|rfl|rfl|rfl|rfl|rfl|rfl|rfl|rfl<;>rfl,by decide⟩
theorem qA1 (r:RT) (j:Nat) (h:j<11):(encT.enc r)[j]?=some (r.cell j):=by
 have:j=0\/j=1\/j=2\/j=3\/j=4\/j=5\/j=6\/j=7\/j=8\/j=9\/j=10:=by omega
 rcases this with rfl|rfl|rfl|rfl|rfl|rfl|rfl|rfl|rfl|rfl|rfl<;>rfl
def encV:Enc Ev:=⟨4,fun r=>[.int .i64 r.id,.int .i64 r.frm,.int .i64 r.dst,.int .i64 r.size],fun _=>rfl,fun a u hu=>by
 simp only [List.mem_cons,List.not_mem_nil,or_false] at hu;rcases hu with rfl|rfl|rfl|rfl<;>rfl,by decide⟩
def encI:Enc Int:=⟨1,fun z=>[.int .i64 z],fun _=>rfl,fun a u hu=>by simp only [List.mem_singleton] at hu;subst hu;rfl,by decide⟩
def encB:Enc Int:=⟨1,fun z=>[.int .u8 z],fun _=>rfl,fun a u hu=>by simp only [List.mem_singleton] at hu;subst hu;rfl,by decide⟩
def NoT (w:World) (b:Nat):Prop:=∀ cs z,w.heap[b]?≠some (.cells cs 42 z)
structure Sl {α:Type} (E:Enc α) (w:World) (p:Option Addr) (c:Nat) (l:List α):Prop where
 nil:p=none->c=0
 hd:0<l.length->∃ b off,p=some ⟨b,off,none⟩/\b<w.heap.size/\NoT w b/\∀ j u,(E.vals l)[j]?=some u->w.cell? ⟨b,off+j,none⟩=some u
namespace Kt
variable {w w' w'':World}
end Kt
theorem Sl.holds {α:Type} {E:Enc α} {w:World} {p:Option Addr} {c:Nat} {l:List α} (h:Sl E w p c l):E.Holds w p l:=fun h0=>by
 obtain ⟨b,off,e,hb,_,hc⟩:=h.hd h0;exact ⟨b,off,e,hb,hc⟩
structure TdI (w:World) (y:RT):Prop where
 s:Sl encV w y.ps y.cs y.x.sent
 f:Sl encB w y.pf y.cf y.x.frame
 r:Sl encI w y.pr y.cr y.x.report
structure TdO (w:World) (y:RT):Prop where
 s:encV.Holds w y.ps y.x.sent
 sn:y.ps=none->y.cs=0
 sl:y.x.sent.length*32<=140737488355328
 f:encB.Holds w y.pf y.x.frame
 fn:y.pf=none->y.cf=0
 fl:y.x.frame.length<=140737488355328
 r:encI.Holds w y.pr y.x.report
 rn:y.pr=none->y.cr=0
 rl:y.x.report.length*8<=140737488355328
theorem holdsT {w:World} {p:Option Addr} {l:List RT} (h:encT.Holds w p l) (h0:0<l.length):∃ b off,p=some ⟨b,off,none⟩/\b<w.heap.size/\∀ j,j<l.length->∀ i,i<11->w.cell? ⟨b,off+(j*11+i),none⟩=some ((l.getD j default).cell i):=by
 obtain ⟨b,off,rfl,hb,hc⟩:=h.at default h0;exact ⟨b,off,rfl,hb,fun j hj i hi=>hc j i _ hj hi (qA1 _ i hi)⟩
structure InT (w:World) (p:Option Addr) (R:List RT):Prop where
 hd:encT.Holds w p R
 td:∀ r,r∈R->TdO w r
 sz:R.length*136<=140737488355328
structure OutT (w:World) (p:Option Addr) (R:List RT):Prop where
 hd:encT.Holds w p R
 td:∀ r,r∈R->TdI w r
namespace VwI
variable {w wx wy:World} {n:Nat} {D:List RT}
end VwI
end Go.Proofs.YtleaknfjbbccgaaGreatDoor.Vi

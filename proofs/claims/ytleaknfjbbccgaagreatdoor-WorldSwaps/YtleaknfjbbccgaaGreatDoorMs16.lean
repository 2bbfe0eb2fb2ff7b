/- Laid together. -/
import Derived.Below
import Derived.Shelf.Abstract
import Derived.Deep.RegionHeld3
import Derived.Deep.DeepCutAuto
import Derived.Deep.QuietTactic
import Derived.BigQuiet
import Derived.Shelf.SlSortCmp.QuietGrown
import Derived.Test.YtleaknfjbbccgaaGreatDoorMs00
import Derived.Test.YtleaknfjbbccgaaGreatDoorMs08
namespace Go.Proofs.YtleaknfjbbccgaaGreatDoor.Vi
set_option maxHeartbeats 16000000
set_option maxRecDepth 100000
open Go.RowKit Go.Shelf
structure Ev where
 id:Int
 frm:Int
 dst:Int
 size:Int
 deriving Inhabited,DecidableEq
structure Sk where
 code:Int
 id:Int
 free:Int
 held:Int
 used:Int
 deriving Inhabited,DecidableEq
structure Td where
 code:Int
 who:Int
 k:Sk
 val:Int
 sent:List Ev
 frame:List Int
 report:List Int
 deriving Inhabited,DecidableEq
structure RT where
 x:Td
 ps:Option Addr
 cs:Nat
 pf:Option Addr
 cf:Nat
 pr:Option Addr
 cr:Nat
 deriving Inhabited
def RT.cell (r:RT):Nat->Value
 | 0=>.int .i64 r.x.code
 | 1=>.int .i64 r.x.who
 | 2=>.int .i64 r.x.k.code
 | 3=>.int .i64 r.x.k.id
 | 4=>.int .i64 r.x.k.free
 | 5=>.int .i64 r.x.k.held
 | 6=>.int .i64 r.x.k.used
 | 7=>.int .i64 r.x.val
 | 8=>.slice r.ps r.x.sent.length r.cs
 | 9=>.slice r.pf r.x.frame.length r.cf
 | _=>.slice r.pr r.x.report.length r.cr
def encT:Enc RT:=⟨11,fun r=>[r.cell 0,r.cell 1,r.cell 2,r.cell 3,r.cell 4,r.cell 5,r.cell 6,r.cell 7,r.cell 8,r.cell 9,r.cell 10],fun _=>rfl,fun a u hu=>by
 simp only [List.mem_cons,List.not_mem_nil,or_false] at hu;rcases hu with rfl|rfl|rfl|rfl|rfl|rfl|rfl|rfl|rfl|rfl|rfl<;>rfl,by decide⟩
theorem xX9 (r:RT) (j:Nat) (h:j<11):(encT.enc r)[j]?=some (r.cell j):=by
 have:j=0\/j=1\/j=2\/j=3\/j=4\/j=5\/j=6\/j=7\/j=8\/j=9\/j=10:=by omega
 rcases this with rfl|rfl|rfl|rfl|rfl|rfl|rfl|rfl|rfl|rfl|rfl<;>rfl
def encV:Enc Ev:=⟨4,fun r=>[.int .i64 r.id,.int .i64 r.frm,.int .i64 r.dst,.int .i64 r.size],fun _=>rfl,fun a u hu=>by
 simp only [List.mem_cons,List.not_mem_nil,or_false] at hu;rcases hu with rfl|rfl|rfl|rfl<;>rfl,by decide⟩
def encI:Enc Int:=⟨1,fun z=>[.int .i64 z],fun _=>rfl,fun a u hu=>by simp only [List.mem_singleton] at hu;subst hu;rfl,by decide⟩
def encB:Enc Int:=⟨1,fun z=>[.int .u8 z],fun _=>rfl,fun a u hu=>by simp only [List.mem_singleton] at hu;subst hu;rfl,by decide⟩
def NoT (w:World) (b:Nat):Prop:=∀ cs z,w.heap[b]?≠some (.cells cs 42 z)
structure Sl {α:Type} (E:Enc α) (w:World) (p:Option Addr) (c:Nat) (l:List α):Prop where
 nil:p=none->c=0
 hd:0<l.length->∃ b off,p=some ⟨b,off,none⟩/\b<w.heap.size/\NoT w b/\∀ j u,(E.vals l)[j]?=some u->w.cell? ⟨b,off+j,none⟩=some u
structure Kt (w w':World):Prop where
 size:w.heap.size<=w'.heap.size
 block:∀ b,b<w.heap.size->NoT w b->w'.heap[b]?=w.heap[b]?
theorem NoT.keep {w w':World} {b:Nat} (h:NoT w b) (e:w'.heap[b]?=w.heap[b]?):NoT w' b:=fun cs z=>by rw [e];exact h cs z
namespace Kt
variable {w w' w'':World}
theorem of_below (h:Below w.heap.size w w'):Kt w w':=⟨h.size,fun b hb _=>h.block b hb⟩
end Kt
theorem Sl.keep {α:Type} {E:Enc α} {w w':World} {p:Option Addr} {c:Nat} {l:List α} (h:Sl E w p c l) (k:Kt w w'):Sl E w' p c l:=⟨h.nil,fun h0=>by
 obtain ⟨b,off,rfl,hb,hn,hc⟩:=h.hd h0;have e:=k.block b hb hn;refine ⟨b,off,rfl,zF hb k.size,hn.keep e,fun j u hu=>?_⟩;rw [<- hc j u hu];simp only [World.cell?,e]⟩
theorem Sl.holds {α:Type} {E:Enc α} {w:World} {p:Option Addr} {c:Nat} {l:List α} (h:Sl E w p c l):E.Holds w p l:=fun h0=>by
 obtain ⟨b,off,e,hb,_,hc⟩:=h.hd h0;exact ⟨b,off,e,hb,hc⟩
structure TdI (w:World) (y:RT):Prop where
 s:Sl encV w y.ps y.cs y.x.sent
 f:Sl encB w y.pf y.cf y.x.frame
 r:Sl encI w y.pr y.cr y.x.report
theorem TdI.keep {w w':World} {r:RT} (h:TdI w r) (k:Kt w w'):TdI w' r:=⟨h.s.keep k,h.f.keep k,h.r.keep k⟩
structure TdO (w:World) (y:RT):Prop where
 s:encV.Holds w y.ps y.x.sent
 sn:y.ps=none->y.cs=0
 sl:y.x.sent.length*32<=140737488355328
 f:encB.Holds w y.pf y.x.frame
 fn:y.pf=none->y.cf=0
 fl:y.x.frame.length<=140737488355328
 r:encI.Holds w y.pr y.x.report
 rn:y.pr=none->y.cr=0
 rl:y.x.report.length*8<=140737488355328
theorem holdsT {w:World} {p:Option Addr} {l:List RT} (h:encT.Holds w p l) (h0:0<l.length):∃ b off,p=some ⟨b,off,none⟩/\b<w.heap.size/\∀ j,j<l.length->∀ i,i<11->w.cell? ⟨b,off+(j*11+i),none⟩=some ((l.getD j default).cell i):=by
 obtain ⟨b,off,rfl,hb,hc⟩:=h.at default h0;exact ⟨b,off,rfl,hb,fun j hj i hi=>hc j i _ hj hi (xX9 _ i hi)⟩
structure InT (w:World) (p:Option Addr) (R:List RT):Prop where
 hd:encT.Holds w p R
 td:∀ r,r∈R->TdO w r
 sz:R.length*136<=140737488355328
structure OutT (w:World) (p:Option Addr) (R:List RT):Prop where
 hd:encT.Holds w p R
 td:∀ r,r∈R->TdI w r
theorem OutT.grow {w w':World} {p:Option Addr} {R:List RT} (h:OutT w p R) (g:Below w.heap.size w w'):OutT w' p R:=⟨h.hd.grow g,fun r hr=>(h.td r hr).keep (Kt.of_below g)⟩
namespace VwI
variable {w wx wy:World} {n:Nat} {D:List RT}
end VwI
open Go.Sort
theorem yZ4 (p1 p2:Option Addr) (c1 c2:Nat) (w:World) :
  Calls Tryz.prog 16 #[.slice p1 0 c1,.slice p2 0 c2] w fun e w'=>e=.returned (.bool true)/\∃ q,w'=w.drewN q:=by
 go_enter Tryz.func16,Tryz.ntmps16
 go_wp2;refine wp_loop_rounds 1 ?_;rw [rounds_succ];go_wp2;go_ret
 exact ⟨rfl,0,rfl⟩
theorem yZ5 (b1 o1 c1 b2 o2 c2 n:Nat) (l:List Int) (hn:l.length=n) (hl:n<=9223372036854775807) (w:World)
  (h1:∀ j,j<l.length->w.cell? ⟨b1,o1+j,none⟩=some (.int .i64 (l.getD j 0)))
  (h2:∀ j,j<l.length->w.cell? ⟨b2,o2+j,none⟩=some (.int .i64 (l.getD j 0))) :
  Calls Tryz.prog 16 #[.slice (some ⟨b1,o1,none⟩) n c1,.slice (some ⟨b2,o2,none⟩) n c2] w fun e w'=>e=.returned (.bool true)/\∃ q,w'=w.drewN q:=by
 have H1:=hid h1;have H2:=hid h2;have HN:=hid hn;clear h1 h2 hn;go_enter Tryz.func16,Tryz.ntmps16
 go_wp2
 go_loopw [5] (fun i wr=>∃ k q:Nat,k<=n/\i=.int .i64 k/\wr=w.drewN q) (fun i _=>n-(intOf i).toNat)
 case atStart=>exact ⟨0,0,zG _,rfl,rfl⟩
 case round =>
  obtain ⟨k,q,hk,rfl,rfl⟩:=hrel;by_cases hlt:k<n
  ·have g1:=H1.out k (by rw [HN.out];exact hlt)
   have g2:=H2.out k (by rw [HN.out];exact hlt);have hlt':(k:Int)<(n:Int):=by omega
   generalize l.getD k 0=x at g1 g2;have hx:(x != x)=false:=by simp
   go_wp2
   go_quiet (fail)
   go_wp2
   go_roundw
   case rel=>exact ⟨k+1,_,by omega,by go_num,rfl⟩
   case measure=>simp [intOf];omega
  ·go_wp2
   go_ret
   exact ⟨rfl,_,rfl⟩
theorem qH6 {n:Nat} {p1 p2:Option Addr} {c1 c2:Nat} {l:List Int} (w:World) (hn:l.length=n) (hl:n<=9223372036854775807) (h1:encI.Holds w p1 l) (h2:encI.Holds w p2 l) :
  Calls Tryz.prog 16 #[.slice p1 n c1,.slice p2 n c2] w fun e w'=>e=.returned (.bool true)/\∃ q,w'=w.drewN q:=by
 by_cases h0:0<l.length
 ·obtain ⟨b1,o1,rfl,_,g1⟩:=h1.at 0 h0
  obtain ⟨b2,o2,rfl,_,g2⟩:=h2.at 0 h0;refine yZ5 b1 o1 c1 b2 o2 c2 n l hn hl w (fun j hj=>?_) (fun j hj=>?_)
  ·have:=g1 j 0 _ hj (by decide) rfl
   rwa [show j*encI.n+0=j from by show j*1+0=j;omega] at this
  ·have:=g2 j 0 _ hj (by decide) rfl
   rwa [show j*encI.n+0=j from by show j*1+0=j;omega] at this
 ·have e:n=0:=by omega
  subst e;exact yZ4 p1 p2 c1 c2 w
theorem yZ6 (p1 p2:Option Addr) (c1 c2:Nat) (w:World) :
  Calls Tryz.prog 17 #[.slice p1 0 c1,.slice p2 0 c2] w fun e w'=>e=.returned (.bool true)/\∃ q,w'=w.drewN q:=by
 go_enter Tryz.func17,Tryz.ntmps17
 go_wp2;refine wp_loop_rounds 1 ?_;rw [rounds_succ];go_wp2;go_ret
 exact ⟨rfl,0,rfl⟩
theorem yZ7 (b1 o1 c1 b2 o2 c2 n:Nat) (l:List Int) (hn:l.length=n) (hl:n<=9223372036854775807) (w:World)
  (h1:∀ j,j<l.length->w.cell? ⟨b1,o1+j,none⟩=some (.int .u8 (l.getD j 0)))
  (h2:∀ j,j<l.length->w.cell? ⟨b2,o2+j,none⟩=some (.int .u8 (l.getD j 0))) :
  Calls Tryz.prog 17 #[.slice (some ⟨b1,o1,none⟩) n c1,.slice (some ⟨b2,o2,none⟩) n c2] w fun e w'=>e=.returned (.bool true)/\∃ q,w'=w.drewN q:=by
 have H1:=hid h1;have H2:=hid h2;have HN:=hid hn;clear h1 h2 hn;go_enter Tryz.func17,Tryz.ntmps17
 go_wp2
 go_loopw [5] (fun i wr=>∃ k q:Nat,k<=n/\i=.int .i64 k/\wr=w.drewN q) (fun i _=>n-(intOf i).toNat)
 case atStart=>exact ⟨0,0,zG _,rfl,rfl⟩
 case round =>
  obtain ⟨k,q,hk,rfl,rfl⟩:=hrel;by_cases hlt:k<n
  ·have g1:=H1.out k (by rw [HN.out];exact hlt)
   have g2:=H2.out k (by rw [HN.out];exact hlt);have hlt':(k:Int)<(n:Int):=by omega
   generalize l.getD k 0=x at g1 g2;have hx:(x != x)=false:=by simp
   go_wp2
   go_quiet (fail)
   go_wp2
   go_roundw
   case rel=>exact ⟨k+1,_,by omega,by go_num,rfl⟩
   case measure=>simp [intOf];omega
  ·go_wp2
   go_ret
   exact ⟨rfl,_,rfl⟩
theorem qH7 {n:Nat} {p1 p2:Option Addr} {c1 c2:Nat} {l:List Int} (w:World) (hn:l.length=n) (hl:n<=9223372036854775807) (h1:encB.Holds w p1 l) (h2:encB.Holds w p2 l) :
  Calls Tryz.prog 17 #[.slice p1 n c1,.slice p2 n c2] w fun e w'=>e=.returned (.bool true)/\∃ q,w'=w.drewN q:=by
 by_cases h0:0<l.length
 ·obtain ⟨b1,o1,rfl,_,g1⟩:=h1.at 0 h0
  obtain ⟨b2,o2,rfl,_,g2⟩:=h2.at 0 h0;refine yZ7 b1 o1 c1 b2 o2 c2 n l hn hl w (fun j hj=>?_) (fun j hj=>?_)
  ·have:=g1 j 0 _ hj (by decide) rfl
   rwa [show j*encB.n+0=j from by show j*1+0=j;omega] at this
  ·have:=g2 j 0 _ hj (by decide) rfl
   rwa [show j*encB.n+0=j from by show j*1+0=j;omega] at this
 ·have e:n=0:=by omega
  subst e;exact yZ6 p1 p2 c1 c2 w
end Go.Proofs.YtleaknfjbbccgaaGreatDoor.Vi

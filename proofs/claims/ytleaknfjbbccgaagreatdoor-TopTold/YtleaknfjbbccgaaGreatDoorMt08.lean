/- Laid together. -/
import Derived.Deep.LoopGhost
import Derived.Test.YtleaknfjbbccgaaGreatDoorMt07
namespace Go.Proofs.YtleaknfjbbccgaaGreatDoor
open Plain
set_option maxHeartbeats 16000000
set_option maxRecDepth 100000
open Go.RowKit Go.Shelf Go.Sort
theorem Tryz.infoSsE:(Tryz.prog.info? 56).map (fun i=>(i.zero,i.size,i.bytes))=some (some (.slice none 0 0),1,24):=by kernel_rfl
theorem zV8 (w:World) (T m:Nat):(w.alloc (.cells (madeCells #[.slice none 0 0] m) T)).rowIs w.heap.size T m (fun _=>.slice none 0 0) :=
 ⟨_,yE _ _,size_madeCells _ _,fun i hi=>by simp [madeCells,hi,Nat.mod_one]⟩
theorem yT7 (R oo:Nat) (XX:Win) (H who:Nat) (lp:Option Addr) (lc:Nat) (L:List Int) (s:Nat->List En) (T:Int) (hL4:L.length<=4) (hS:Sok T s) (w:World) (h:StI R oo XX H w who lp lc L s) :
  Calls Tryz.prog 31 #[.pointer (some ⟨R,oo,none⟩)] w fun e w'=>∃ G,e=.returned (.slice (some ⟨G,0,none⟩) L.length L.length)/\(∃ f,RowL w' G L.length s f)/\w.heap.size<=G/\Below w.heap.size w w':=by
 have x2:=h.c2;have HI:=hid h;have HS:=hid hS;obtain ⟨m,hm⟩:∃ m,m=L.length:=⟨_,rfl⟩;rw [<- hm] at x2 hL4 ⊢;have HM:=hid hm;have hmk:=run_make_row' (P:=Tryz.prog) 57 56 (.slice none 0 0) 24 Tryz.underlying57 Tryz.infoSsE rfl .i64 .i64 m (by omega) (by omega);obtain ⟨WA,hWA⟩:∃ WA,WA=w.alloc (.cells (madeCells #[.slice none 0 0] m) 56):=⟨_,rfl⟩;have BA:=hid (show Below w.heap.size w WA by rw [hWA];exact yN.alloc yM _);have RA:=hid (show RowL WA w.heap.size m (fun _=>[]) (fun _=>.slice none 0 0) by
  refine ⟨by rw [hWA];exact zV8 w _ m,fun j _=>⟨SegN.nil _,yU _ _ _⟩,fun j _=>TyE.nil _ _ _⟩)
 have x2A:=(HI.out.grow BA.out).c2;rw [<- HM.out,hWA] at x2A;clear h hS hm;go_enter Tryz.func31,Tryz.ntmps31
 go_wp2;rw [<- hWA];clear hWA x2A x2 hmk
 go_loopg [4,16] m (fun gg _ s16 wx=>∃ k:Nat,k<=m/\m-k<=gg/\s16=.int .i64 k/\Aside (Below w.heap.size w wx)/\Aside (∃ f,RowL wx w.heap.size m (fun j=>if j<k then s j else []) f))
 case atStart=>exact ⟨0,zG _,by omega,rfl,(show Aside _ from BA.out),(show Aside _ from ⟨_,RA.out.congr fun j _=>(by rw [if_neg (by omega)])⟩)⟩
 case round =>
  obtain ⟨k,hk,hg,rfl,AB,AR⟩:=hrel;clear BA RA;by_cases hlt:k<m
  ·have hltz:(k:Int)<(m:Int):=by omega
   have hkl:k<L.length:=by rw [<- HM.out];exact hlt
   have I2:=hid (HI.out.grow AB.out);have x2:=I2.out.c2;rw [<- HM.out] at x2;obtain ⟨p,c,xk,sg,ly,_⟩:=I2.out.has hkl;have l8:=HS.out.len k;have KC:=zH5 (.slice p (s k).length c) (s k) (by omega) wr sg ly;have HRW:=hid AR.out;clear sg ly AR;generalize (s k).length=ln at KC xk l8
   go_wp2_with fail
   refine KC.mono ?_;rintro e w2 ⟨v2,rfl,hown,b2⟩;have B2:=hid (AB.out.trans (b2.mono AB.out.size));obtain ⟨sg2,ly2⟩:=OwnN.seg hown;have ty2:=OwnN.ty hown;obtain ⟨p2,c2,e2,_⟩:=sg2.form;rw [e2] at sg2 ly2 ty2;rw [e2];have NX:=hid (show ∃ f,RowL (w2.setCell ⟨w.heap.size,k,none⟩ (.slice p2 (s k).length c2)) w.heap.size m (fun j=>if j<k+1 then s j else []) f by
    obtain ⟨f,hf⟩:=HRW.out;refine ⟨_,((hf.grow b2).set k sg2 ⟨ly2,ty2⟩).congr fun j hj=>?_⟩;by_cases e:j=k
    ·rw [if_pos e,if_pos (by omega),e]
    ·rw [if_neg e]
     by_cases h2:j<k
     ·rw [if_pos h2,if_pos (by omega)]
     ·rw [if_neg h2,if_neg (by omega)])
   have yk:∃ v,w2.cell? ⟨w.heap.size,k,none⟩=some v:=by
    obtain ⟨f,hf⟩:=HRW.out;exact ⟨_,(hf.grow b2).row.cell hlt⟩
   have zk:w2.frozen? ⟨w.heap.size,k,none⟩=false:=by
    obtain ⟨f,hf⟩:=HRW.out;exact (hf.grow b2).row.frozen k
   obtain ⟨vk,yk⟩:=yk;clear KC hown b2 sg2 ly2 ty2 e2 HRW x2 xk I2 AB;go_wp2
   go_roundg (m-(k+1))
   case measure=>omega
   case rel=>exact ⟨k+1,by omega,by omega,by go_num,(show Aside _ from B2.out.setCell yM _),(show Aside _ from NX.out)⟩
  ·have hltz:¬ (k:Int)<(m:Int):=by omega
   have ek:k=m:=by omega
   have FI:=hid (show ∃ f,RowL wr w.heap.size m s f by
    obtain ⟨f,hf⟩:=AR.out;exact ⟨f,hf.congr fun j hj=>by rw [if_pos (by omega)]⟩)
   go_wp2;go_ret
   exact ⟨_,rfl,FI.out,yM,AB.out⟩
def NewS (who:Nat) (lp:Option Addr) (m lc:Nat) (w:World) (e:Ending) (w':World):Prop :=
 ∃ H,e=.returned (.agg #[.int .i64 (who:Nat),.slice lp m lc,.slice (some ⟨H,0,none⟩) m m])/\w'.rowIs H 56 m (fun _=>.slice none 0 0)/\w.heap.size<=H/\Below w.heap.size w w'
theorem yB1 {fn:Func} {p:Tmp} {Q:Ending->World->Prop} {a:Act} {w:World} (h:fn.results=#[.cell p 91]) (R:Nat) (c:Array Value) (hs:c.size=3) (hp:a.tmps.getD p undef=.pointer (some ⟨R,0,none⟩))
  (hg:w.heap[R]?=some (.cells c 91 (0,0))) (hd:a.defers=[]) (hR:Q (.returned (.agg c)) w):bodyPost Tryz.prog fn Q .ret a w :=
 bodyPost_ret (results_cell_row (P:=Tryz.prog) h _ _ R 91 _ (0,0) _ hp hg Tryz.underlying91 rfl (by rw [hs];kernel_rfl)) hd hR
theorem yL8 (who:Nat) (lp:Option Addr) (m lc:Nat) (hm:m<=4) (w:World) :
  Calls Tryz.prog 46 #[.int .i64 (who:Nat),.slice lp m lc] w fun e w'=>NewS who lp m lc w e w':=by
 have hmk:=run_make_row' (P:=Tryz.prog) 57 56 (.slice none 0 0) 24 Tryz.underlying57 Tryz.infoSsE rfl .i64 .i64 m (by omega) (by omega);go_enter Tryz.func46,Tryz.ntmps46
 go_wp2
 (try simp only [Exit.inBlock,Exit.then])
 obtain ⟨W1,hW1⟩:∃ W1,W1=w.alloc (.cells #[.int .i64 (who:Nat),.slice lp m lc,.slice (some ⟨w.heap.size+1,0,none⟩) m m] 91):=⟨_,rfl⟩;rw [<- hW1];have hs:W1.heap.size=w.heap.size+1:=by rw [hW1];simp
 have hb:W1.heap[w.heap.size]?=some (.cells #[.int .i64 (who:Nat),.slice lp m lc,.slice (some ⟨w.heap.size+1,0,none⟩) m m] 91 (0,0)):=by rw [hW1];exact yE _ _
 have b1:Below w.heap.size w W1:=by rw [hW1];exact yN.alloc yM _
 have hr:=zV8 W1 56 m;rw [hs] at hr;have b2:Below W1.heap.size W1 (W1.alloc (.cells (madeCells #[.slice none 0 0] m) 56)):=yN.alloc yM _;exact yB1 rfl w.heap.size _ rfl rfl ((b2.block _ (by omega)).trans hb) rfl ⟨_,rfl,hr,by omega,b1.trans (b2.mono b1.size)⟩
end Go.Proofs.YtleaknfjbbccgaaGreatDoor

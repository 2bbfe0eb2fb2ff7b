/-
 Laid together: what the law asks of these.
-/
import Derived.Test.YtlohgiichckjmaaGreatDoorMx18
import Derived.Test.YtlohgiichckjmaaGreatDoorMx19
namespace Go.Proofs.YtlohgiichckjmaaGreatDoor
set_option maxHeartbeats 16000000
set_option maxRecDepth 100000
namespace Plain
open Bo.Plain (Bk roundB caB mapN)
def Idl (r:Hd.Plain.Rk):Prop:=r.used=0/\r.cs=[]/\r.ls=[]
theorem Idl.one {r:Hd.Plain.Rk} (h:Idl r) (x:Int):Idl (Hd.Plain.stepR r ⟨1,x,0,0⟩):=by
 unfold Hd.Plain.stepR
 split
 ·unfold Hd.Plain.ordR
  rw [if_pos rfl]
  exact h
 ·exact h
theorem Idl.tick {r:Hd.Plain.Rk} (h:Idl r):Idl (Hd.Plain.stepR r ⟨7,0,0,0⟩):=by
 unfold Hd.Plain.stepR
 split
 ·exact ⟨h.1,h.2.1,by show Hd.Plain.tickL r.ls=[];rw [h.2.2];rfl⟩
 ·exact h
theorem Idl.held {r:Hd.Plain.Rk} (h:Idl r):r.held=0:=by
 unfold Hd.Plain.Rk.held
 rw [h.2.1];rfl
def Wid (W:Wo):Prop:=∀ i k,Idl (W.rk i k)
theorem Wid.come {c:Cf} {W:Wo} (h:Wid W) (p:Se.Plain.Po):Wid (comeW c W p):=by
 unfold comeW
 split
 ·exact h
 split
 ·intro i k
  show Idl (if _ then _ else _)
  split
  ·exact (h i k).one _
  ·exact h i k
 ·exact h
theorem Wid.step {c:Cf} {W:Wo} (h:Wid W) {s:Sp} (hs:s.kind=1\/s.kind=9\/s.kind=10):Wid (stW c W s):=by
 unfold stW
 split
 ·exact fun i k=>(h i k).tick
 split
 ·unfold delW
  split
  ·exact h
  ·refine Wid.come (W:={ W with off:={ W.off with opened:=W.off.opened++[s.id.toNat] } }) ?_ _
   exact h
 rw [if_neg (by omega)]
 split
 ·exact h
 split
 ·exact h
 unfold brW
 rw [if_neg (by omega),if_neg (by omega)]
 split
 ·exact h
 rw [if_pos (by omega)]
 split<;>exact h
theorem Wid.run {c:Cf} {W:Wo} (h:Wid W) (l:List Sp) (hl:∀ s,s∈l->s.kind=1\/s.kind=9\/s.kind=10):Wid (runW c W l):=by
 induction l generalizing W with
 | nil=>exact h
 | cons s l ih=>exact ih (h.step (hl s List.mem_cons_self)) (fun s hs=>hl s (List.mem_cons_of_mem _ hs))
def askA (W:Wo) (k:Nat):Nat->Bk
 | 0=>roundB (W.bk k)
 | a+1=>caB (askA W k a) ⟨2,(a:Int),W.ask a k⟩
structure Cbk (m:Nat) (W D:Wo) (j:Nat):Prop where
 bk:∀ k,k<m->D.bk k=askA W k (min 4 ((j+3)/4))
 ak:D.ask=W.ask
theorem Cbk.same {m:Nat} {W D D':Wo} {j:Nat} (h:Cbk m W D j) (e:D'.bk=D.bk) (e2:D'.ask=D.ask) (hj:j%4≠0\/16<=j):Cbk m W D' (j+1) :=
 ⟨fun k hk=>by rw [e,h.bk k hk];exact congrArg (askA W k) (by omega),by rw [e2];exact h.ak⟩
theorem Cbk.step {c:Cf} {m K b:Nat} {W D:Wo} {j:Nat} (hc:mayC c=true) (hn:c.n=4) (hm:c.ms.length=m) (hw:Wok c 4 m K W) (hb:Wob W) (hlo:Wlo W) (hbp:W.off.posted.length=b) (h:Cmg c m b (tickW c W) D j) (g:Cbk m W D j) (hj:j<20):Cbk m W (stW c D (delS (b+j))) (j+1):=by
 obtain ⟨e1,e2⟩:=h.come hc hn hw hb hlo hbp hj
 rw [e1]
 by_cases h16:16<=j
 ·obtain ⟨a,rfl⟩:=Nat.exists_eq_add_of_le h16
  rw [e2 _ (tickP_giv hn (by omega))]
  have e:comeW c { D with off:={ D.off with opened:=D.off.opened++[b+(16+a)] } } (givP c W a)=giveW { D with off:={ D.off with opened:=D.off.opened++[b+(16+a)] } } (givP c W a).«to».toNat (askV c (natL (givP c W a).data)):=by
   unfold comeW
   rw [if_neg (by show ¬ ((a:Nat):Int)=c.n;rw [hn];omega),if_pos (by rfl)]
  rw [e]
  exact g.same rfl rfl (.inr h16)
 have hlow:=e2 _ (tickP_low hn (j:=j) (by omega))
 by_cases h0:j%4=0
 ·rw [if_pos h0] at hlow
  rw [hlow]
  have hask:askV c (natL (asksP c W (j/4)).data)=mapN c.ms.length (W.ask (j/4)):=by
   show askV c (natL (byI (asksB c (mapN c.ms.length (W.ask (j/4))))))=_
   rw [natL_byI,(asks_back hc (Bo.Plain.mapN_len _ _) (mapN_all fun k _=>hw.ask (j/4) k)).2.2.1]
  have e:comeW c { D with off:={ D.off with opened:=D.off.opened++[b+j] } } (asksP c W (j/4))=wantW { D with off:={ D.off with opened:=D.off.opened++[b+j] } } ((j/4:Nat):Int) (mapN c.ms.length (W.ask (j/4))):=by
   unfold comeW
   rw [if_pos (by rfl),hask]
   rfl
  rw [e]
  refine ⟨fun k hk=>?_,g.ak⟩
  show (if k<(mapN c.ms.length (W.ask (j/4))).length then caB (D.bk k) ⟨2,((j/4:Nat):Int),(mapN c.ms.length (W.ask (j/4))).getD k 0⟩ else D.bk k)=_
  rw [Bo.Plain.mapN_len,hm,if_pos hk,Bo.Plain.mapN_at hk,g.bk k hk,show min 4 ((j+3)/4)=j/4 by omega,show min 4 ((j+1+3)/4)=j/4+1 by omega]
  rfl
 rw [if_neg h0] at hlow
 rw [hlow]
 have ha4:j/4<4:=by omega
 have hi4:dstF j<4:=by unfold dstF;split<;>omega
 have e:∃ t,comeW c { D with off:={ D.off with opened:=D.off.opened++[b+j] } } (rumP c W (j/4) (dstF j))=hearW c { D with off:={ D.off with opened:=D.off.opened++[b+j] } } (rumP c W (j/4) (dstF j)).frm.toNat (rumP c W (j/4) (dstF j)).«to».toNat t:=by
  refine ⟨heaV c (rumP c W (j/4) (dstF j)).frm (rumP c W (j/4) (dstF j)).«to» (natL (rumP c W (j/4) (dstF j)).data),?_⟩
  unfold comeW
  rw [if_neg (by show ¬ ((dstF j:Nat):Int)=c.n;rw [hn];omega),if_neg (by show ¬ ((j/4:Nat):Int)=c.n;rw [hn];omega)]
 obtain ⟨t,e⟩:=e
 rw [e]
 exact g.same rfl rfl (.inl h0)
theorem cbk_all {c:Cf} {m:Nat} {l:List Sp} (hc:mayC c=true) (hn:c.n=4) (hm:c.ms.length=m) (hl:l.length+21<=300):∀ j,j<=20->Cbk m (runW c (Wo.start c) l) (runW c (Wo.start c) (l++tickS :: comeL (20*ticksN l) j)) j:=by
 have hw:=wok_all hc (n:=4) hn hm l (by omega)
 have hlo:Wlo (runW c (Wo.start c) l):=Wlo.run (show Wlo (Wo.start c) from fun i (hi:i∈([]:List Int))=>(nomatch hi)) l
 have hbp:(runW c (Wo.start c) l).off.posted.length=20*ticksN l:=by rw [posted_len hc (n:=4) hn hm l.length l rfl (by omega),shape_len hn]
 intro j
 induction j with
 | zero =>
  intro _
  rw [runW_app]
  exact ⟨fun _ _=>rfl,rfl⟩
 | succ j ih =>
  intro hj
  have hi:=ih (by omega)
  have hcm:=cmg_all hc hn hm hl rfl j (by omega)
  rw [comeL_succ,<- List.cons_append,<- List.append_assoc,runW_app]
  exact hi.step hc hn hm hw.1 hw.2 hlo hbp hcm (by omega)
theorem full_bk {c:Cf} {m:Nat} {l:List Sp} (hc:mayC c=true) (hn:c.n=4) (hm:c.ms.length=m) (hl:l.length+21<=300):(∀ k,k<m->(runW c (Wo.start c) (fullF l)).bk k=askA (runW c (Wo.start c) l) k 4)/\(runW c (Wo.start c) (fullF l)).ask=(runW c (Wo.start c) l).ask:=by
 have h:=cbk_all hc hn hm hl 20 (Nat.le_refl _)
 exact ⟨h.bk,h.ak⟩
def splitC (t cap:Int):List Int:=if cap+cap+cap+cap<=t then [cap,cap,cap,cap] else Bo.Plain.give (t/4) (t%4) [cap,cap,cap,cap]
theorem split_four {t cap:Int} (ht:0<=t) (hc:0<=cap/\cap<=1048576):Bo.Plain.splitL t (List.replicate 4 cap)=splitC t cap:=by
 have hr:List.replicate 4 cap=[cap,cap,cap,cap]:=rfl
 have hs:Bo.Plain.sumL [cap,cap,cap,cap]=cap+cap+cap+cap:=by show cap+(cap+(cap+(cap+0)))=_;omega
 unfold Bo.Plain.splitL splitC
 rw [hr,hs]
 split
 ·rfl
 next hne =>
  have hm:∀ x:Int,Bo.Plain.sm x [cap,cap,cap,cap]=min cap x+min cap x+min cap x+min cap x:=fun x=>by show min cap x+(min cap x+(min cap x+(min cap x+0)))=_;omega
  have hw:Bo.Plain.Wm [cap,cap,cap,cap]:=fun w hw=>by
   have:w=cap:=by simpa using hw
   omega
  have hl:=Bo.Plain.level_ok hw ht (by rw [hs];omega)
  have e:((Bo.Plain.level t [cap,cap,cap,cap]:Nat):Int)=t/4:=by
   refine Bo.Plain.level_unique (t:=t) (ws:=[cap,cap,cap,cap]) hl.1 hl.2.1 ?_ ?_
   ·rw [hm];omega
   ·rw [hm];omega
  rw [e,hm]
  congr 1
  omega
def begC (b:Bk):Bk:=if b.rounds=0 then { b with quotas:=splitC b.reserve b.cap,since:=Bo.Plain.zeros b.n } else b
def roundC (b:Bk):Bk:=Bo.Plain.giveB (begC b)
theorem round_C {b:Bk} (h:Bo.Plain.Ok b) (hn:b.n=4):roundB b=roundC b:=by
 unfold Bo.Plain.roundB roundC Bo.Plain.begB begC
 split
 ·rw [show List.replicate b.n b.cap=List.replicate 4 b.cap by rw [hn],split_four h.re h.cap]
 ·rfl
def fulC (x y:Int) (b:Bk):Bk:=caB (caB (caB (caB (roundC b) ⟨2,0,0⟩) ⟨2,1,x⟩) ⟨2,2,0⟩) ⟨2,3,y⟩
def iterC (x y:Int) (b:Bk):Nat->Bk
 | 0=>b
 | j+1=>fulC x y (iterC x y b j)
def bookC (cap t x y:Int):Bk:=caB (Bk.new 4 cap t.toNat) ⟨1,0,3*(x+y)⟩
theorem served:∀ cap:Fin 9,∀ t:Fin 2,∀ x:Fin 4,∀ y:Fin 4,(iterC (1+(x.val:Int)) (1+(y.val:Int)) (bookC (1+(cap.val:Int)) (1+(t.val:Int)) (1+(x.val:Int)) (1+(y.val:Int))) 10).given=[0,1+(x.val:Int),0,1+(y.val:Int)]:=by decide +kernel
def fulls (l:List Sp):Nat->List Sp
 | 0=>l
 | j+1=>fullF (fulls l j)
theorem fulls_len (l:List Sp) (j:Nat):(fulls l j).length=l.length+21*j:=by
 induction j with
 | zero=>rfl
 | succ j ih=>show (fullF (fulls l j)).length=_;rw [fullF_len,ih];omega
theorem fulls_kind {l:List Sp} (h:∀ s,s∈l->s.kind=1) (j:Nat):∀ s,s∈fulls l j->s.kind=1\/s.kind=9\/s.kind=10:=by
 induction j with
 | zero=>exact fun s hs=>.inl (h s hs)
 | succ j ih =>
  intro s hs
  change s∈fullF (fulls l j) at hs
  unfold fullF comeL at hs
  rcases List.mem_append.1 hs with y|y
  ·exact ih s y
  ·rcases List.mem_cons.1 y with rfl|y
   ·exact .inr (.inl rfl)
   ·obtain ⟨i,_,rfl⟩:=List.mem_map.1 y
    exact .inr (.inr rfl)
def askS (i:Nat) (x:Int):Sp:=⟨1,(i:Int),0,x,0,0,0,0⟩
theorem ask_step {c:Cf} (hn:c.n=4) (hm:c.ms.length=2) {W:Wo} {i:Nat} (hi:i<4) {x:Int} (ha:afE (W.ask i 0) x=0):stW c W (askS i x)={ W with ask:=up2 W.ask i 0 (W.ask i 0+x) }:=by
 have h1:¬ ((i:Int)<0\/c.n<=(i:Int)):=by omega
 have h2:¬ ((0:Int)<0\/(c.ms.length:Int)<=0):=by omega
 unfold stW brW askS
 dsimp only
 rw [if_neg (by decide),if_neg (by decide),if_neg (by decide),if_neg (by decide),if_neg h1,if_neg (by decide),if_neg (by decide),if_neg h2,if_pos rfl,Int.toNat_natCast,show (0:Int).toNat=0 from rfl,if_pos ha]
theorem serve_all {c:Cf} (hc:mayC c=true) (hn:c.n=4) {cap t x y:Nat} (hcap:c.cap=1+(cap:Int)) (h9:cap<9) (ht:c.t=1+(t:Int)) (h2:t<2) (hx:x<4) (hy:y<4) (hms:c.ms=[3*(1+(x:Int)+(1+(y:Int))),5]) {W:Wo} (hW:W=runW c (Wo.start c) (fulls [askS 1 (1+(x:Int)),askS 3 (1+(y:Int))] 10)) :
  (W.rk 1 0).free=1+(x:Int)/\(W.rk 3 0).free=1+(y:Int)/\(W.rk 0 0).free=0/\W.ask 1 0=1+(x:Int):=by
 obtain ⟨X,hX⟩:∃ X:Int,X=1+(x:Int):=⟨_,rfl⟩
 obtain ⟨Y,hY⟩:∃ Y:Int,Y=1+(y:Int):=⟨_,rfl⟩
 have hsv:=served ⟨cap,h9⟩ ⟨t,h2⟩ ⟨x,hx⟩ ⟨y,hy⟩
 rw [<- hX,<- hY] at hsv hms hW ⊢
 have hX2:1<=X/\X<=4:=by omega
 have hY2:1<=Y/\Y<=4:=by omega
 clear hX hY
 have hm:c.ms.length=2:=by rw [hms];rfl
 obtain ⟨l,hl⟩:∃ l,l=[askS 1 X,askS 3 Y]:=⟨_,rfl⟩
 rw [<- hl] at hW
 have hll:l.length=2:=by rw [hl];rfl
 have hrun:runW c (Wo.start c) l={ Wo.start c with ask:=up2 (up2 (fun _ _=>0) 1 0 X) 3 0 Y }:=by
  rw [hl]
  show stW c (stW c (Wo.start c) (askS 1 X)) (askS 3 Y)=_
  have a1:afE ((Wo.start c).ask 1 0) X=0:=by
   show afE 0 X=0
   unfold afE
   rw [if_neg (by omega),if_neg (by omega)]
  rw [ask_step hn hm (by omega) a1]
  have a3:afE (({ Wo.start c with ask:=up2 (Wo.start c).ask 1 0 ((Wo.start c).ask 1 0+X) }:Wo).ask 3 0) Y=0:=by
   show afE 0 Y=0
   unfold afE
   rw [if_neg (by omega),if_neg (by omega)]
  rw [ask_step hn hm (by omega) a3]
  have e1:(Wo.start c).ask 1 0+X=X:=by show 0+X=X;omega
  rw [e1]
  have e3:up2 (Wo.start c).ask 1 0 X 3 0+Y=Y:=by show 0+Y=Y;omega
  show ({ Wo.start c with ask:=up2 (up2 (Wo.start c).ask 1 0 X) 3 0 (up2 (Wo.start c).ask 1 0 X 3 0+Y) }:Wo)=_
  rw [e3]
  rfl
 have hb0:(runW c (Wo.start c) l).bk 0=bookC (1+(cap:Int)) (1+(t:Int)) X Y:=by
  rw [hrun]
  show bk0 c 0=_
  unfold bk0 bookC
  rw [hms,hn,hcap,ht]
  show (if 3*(X+Y)≠0 then _ else _)=_
  rw [if_pos (by omega)]
  rfl
 have ha0:(runW c (Wo.start c) l).ask=up2 (up2 (fun _ _=>0) 1 0 X) 3 0 Y:=by rw [hrun]
 have ind:∀ j,j<=10->(runW c (Wo.start c) (fulls l j)).ask=up2 (up2 (fun _ _=>0) 1 0 X) 3 0 Y/\(runW c (Wo.start c) (fulls l j)).bk 0=iterC X Y (bookC (1+(cap:Int)) (1+(t:Int)) X Y) j:=by
  intro j
  induction j with
  | zero=>exact fun _=>⟨ha0,hb0⟩
  | succ j ih =>
   intro hj
   obtain ⟨i1,i2⟩:=ih (by omega)
   have hlj:=fulls_len l j
   have f:=full_bk (l:=fulls l j) hc hn hm (by omega)
   have ok:=wok_all hc (n:=4) hn hm (fulls l j) (by omega)
   refine ⟨by rw [<- i1];exact f.2,?_⟩
   refine (f.1 0 (by omega)).trans ?_
   show caB (caB (caB (caB (roundB ((runW c (Wo.start c) (fulls l j)).bk 0)) ⟨2,0,_⟩) ⟨2,1,_⟩) ⟨2,2,_⟩) ⟨2,3,_⟩=_
   rw [round_C (ok.2 0) (ok.1.bn 0),i1,i2]
   rfl
 have h10:=ind 10 (Nat.le_refl _)
 have hl9:=fulls_len l 9
 have hl10:=fulls_len l 10
 have hid:=Wid.run (c:=c) (W:=Wo.start c) (fun _ _=>⟨rfl,rfl,rfl⟩) (fulls l 10) (fulls_kind (by
  intro s hs
  rw [hl] at hs
  simp only [List.mem_cons,List.not_mem_nil,or_false] at hs
  rcases hs with rfl|rfl<;>rfl) 10)
 have hss:=wss_all hc (n:=4) hn hm _ (fulls l 10) rfl (by omega)
 have hfr:∀ i,i<4->((runW c (Wo.start c) (fulls l 10)).rk i 0).free=([0,X,0,Y]:List Int).getD i 0:=fun i hi=>by
  have e:=(hss.tot i 0).sm
  rw [(hid i 0).held,(hid i 0).1] at e
  have g:(runW c (Wo.start c) (fulls l 10)).gain i 0=((runW c (Wo.start c) (fulls l 10)).bk 0).given.getD i 0:=full_all (l:=fulls l 9) hc hn hm (by omega) hi (by omega)
  rw [h10.2,hsv] at g
  omega
 rw [hW]
 refine ⟨hfr 1 (by omega),hfr 3 (by omega),hfr 0 (by omega),?_⟩
 rw [h10.1]
 rfl
end Plain
end Go.Proofs.YtlohgiichckjmaaGreatDoor
namespace Go.Proofs.YtlohgiichckjmaaGreatDoor
set_option maxHeartbeats 16000000
set_option maxRecDepth 100000
open Go.RowKit Go.Shelf Go.Sort
theorem Plain.fulls_ids {l:List Plain.Sp} (h:∀ s,s∈l->0<=s.id/\s.id<=100000):∀ j,l.length+21*j<=1000->∀ s,s∈Plain.fulls l j->0<=s.id/\s.id<=100000:=by
 intro j
 induction j with
 | zero=>exact fun _=>h
 | succ j ih=>exact fun hj=>Plain.full_ids (ih (by omega)) (by rw [Plain.fulls_len];omega)
theorem worldServes_c (p:Option Addr) (n cap:Nat) (ls:List Int) (hbig:n<=9223372036854775807) (hn:ls.length=n) (hwf:∀ x,x∈ls->In64 x) (ti mo a b:Int) (hti:In64 ti) (hmo:In64 mo) (ha:In64 a) (hb:In64 b)
  (w:World) (htb:∀ k,2<=k->k<=6->w.cell? ⟨0,k,none⟩=some (.int .i64 (k:Nat))) (hp:NumsQ w p ls) :
  Calls Tryz.prog 7 #[.slice p n cap,.int .i64 ti,.int .i64 mo,.int .i64 a,.int .i64 b] w fun e w'=>e=.returned (.bool true)/\Below w.heap.size w w':=by
 have hb0:0<w.heap.size:=World.block_lt_of_cell? (w:=w) (h:=htb 2 (by omega) (by omega))
 have HTB:=hid (fun X (bx:Below w.heap.size w X) k (h2:2<=k) (h6:k<=6)=>(bx.cell (p:=⟨0,k,none⟩) hb0).trans (htb k h2 h6))
 have htm:In64 (ti.tmod 3):=by
  have h1:=Plain.tmod_bd ti 3 (by omega)
  exact ⟨by omega,by omega⟩
 have KC:=cfg_c (ti.tmod 3) 0 mo htm ⟨by decide,by decide⟩ hmo p n cap ls hbig hn hwf w hp
 obtain ⟨t,ht,ht2⟩:∃ t:Nat,ti%2=(t:Int)/\t<2:=⟨(ti%2).toNat,by omega,by omega⟩
 obtain ⟨m,hm9,hm2⟩:∃ m:Nat,mo%9=(m:Int)/\m<9:=⟨(mo%9).toNat,by omega,by omega⟩
 obtain ⟨x,hx,hx2⟩:∃ x:Nat,a%4=(x:Int)/\x<4:=⟨(a%4).toNat,by omega,by omega⟩
 obtain ⟨y,hy,hy2⟩:∃ y:Nat,b%4=(y:Int)/\y<4:=⟨(b%4).toNat,by omega,by omega⟩
 have K2:=fun w=>picked_any ti 2 hti.1 hti.2 (by omega) (by omega) w
 have K3:=fun w=>picked_any mo 9 hmo.1 hmo.2 (by omega) (by omega) w
 have K4:=fun w=>picked_any a 4 ha.1 ha.2 (by omega) (by omega) w
 have K5:=fun w=>picked_any b 4 hb.1 hb.2 (by omega) (by omega) w
 rw [ht] at K2
 rw [hm9] at K3
 rw [hx] at K4
 rw [hy] at K5
 clear hp hwf htb hb0 hti hmo ha hb ht hm9 hx hy
 go_enter Tryz.func7,Tryz.ntmps7
 go_wp2_with fail
 refine KC.mono ?_
 rintro e w1 ⟨c,lp,lc,mp,mc,hm,hc4,hc3,hc2,hcc,rfl,hI,b1⟩
 have HLAB:=hid (show c.ls=Plain.labsF ls/\c.ls.all (Plain.labB c.n)=true from ⟨by rw [hcc];rfl,(Plain.may_all hm).2.2.1⟩)
 have HC:=hid (And.intro hm (And.intro hc4 (And.intro hc3 hc2)))
 have HI:=hid hI
 have B1:=hid b1
 obtain ⟨CB,hCB⟩:∃ CB,CB=w1.heap.size:=⟨_,rfl⟩
 obtain ⟨W2,hW2⟩:∃ W2,W2=w1.alloc (boxC c (.slice lp c.ls.length lc) (.slice mp c.ms.length mc)):=⟨_,rfl⟩
 have G2:=hid (show Below w1.heap.size w1 W2 by rw [hW2];exact (Below.refl _ _).alloc (Nat.le_refl _) _)
 have R2:=hid (show W2.rowIs CB 25 5 (cfF c (.slice lp c.ls.length lc) (.slice mp c.ms.length mc)) by
  rw [hW2,hCB]
  refine World.rowIs_alloc w1 _ 25 _ fun j hi=>?_
  have hi5:j<5:=hi
  have:j=0\/j=1\/j=2\/j=3\/j=4:=by omega
  rcases this with rfl|rfl|rfl|rfl|rfl<;>rfl)
 have HCB:=hid (show w1.heap.size<=CB by omega)
 clear KC hm hc4 hc3 hc2 hI b1 hcc
 go_upto_region 2 with fail
 rw [<- hW2,<- hCB]
 clear hW2 hCB
 have z2:W2.cell? ⟨CB,2,none⟩=some (.int .i64 c.t):=R2.out.cell (i:=2) (by decide)
 have f2:=R2.out.frozen 2
 obtain ⟨W3,hW3⟩:∃ W3,W3=W2.setCell ⟨CB,2,none⟩ (.int .i64 (1+(t:Int))):=⟨_,rfl⟩
 have G3:=hid (show Below w1.heap.size w1 W3 by rw [hW3];exact G2.out.setCell (p:=⟨CB,2,none⟩) HCB.out _)
 have R3:=hid (show W3.rowIs CB 25 5 _ by rw [hW3];exact R2.out.set 2 (.int .i64 (1+(t:Int))))
 have k2:=K2 W2
 go_wp2_with fail
 refine k2.mono ?_
 rintro e wx ⟨rfl,hx⟩
 have hy:=hx.symm
 clear hx k2 K2
 subst hy
 go_upto_region 3 with fail
 rw [<- hW3]
 clear hW3 z2 f2 G2 R2
 have z2:=R3.out.cell (i:=4) (by decide)
 have z4:W3.cell? ⟨CB,4,none⟩=some (.int .i64 c.cap):=z2
 have f4:=R3.out.frozen 4
 obtain ⟨W4,hW4⟩:∃ W4,W4=W3.setCell ⟨CB,4,none⟩ (.int .i64 (1+(m:Int))):=⟨_,rfl⟩
 have G4:=hid (show Below w1.heap.size w1 W4 by rw [hW4];exact G3.out.setCell (p:=⟨CB,4,none⟩) HCB.out _)
 have R4:=hid (show W4.rowIs CB 25 5 _ by rw [hW4];exact R3.out.set 4 (.int .i64 (1+(m:Int))))
 have k3:=K3 W3
 clear z2
 go_wp2_with fail
 refine k3.mono ?_
 rintro e wx ⟨rfl,hx⟩
 have hy:=hx.symm
 clear hx k3 K3
 subst hy
 go_upto_region 4 with fail
 rw [<- hW4]
 clear hW4 z4 f4 G3 R3
 have k4:=K4 W4
 go_wp2_with fail
 refine k4.mono ?_
 rintro e wx ⟨rfl,hx⟩
 have hy:=hx.symm
 clear hx k4 K4
 subst hy
 have k5:=K5 W4
 go_upto_region 5 with fail
 go_wp2_with fail
 refine k5.mono ?_
 rintro e wx ⟨rfl,hx⟩
 have hy:=hx.symm
 clear hx k5 K5
 subst hy
 go_upto_region 6 with fail
 obtain ⟨mm,hmm⟩:∃ mm:Int,mm=3*(1+(x:Int)+(1+(y:Int))):=⟨_,rfl⟩
 obtain ⟨W5,hW5⟩:∃ W5,W5=W4.alloc (.cells #[.int .i64 (3*(1+(x:Int)+(1+(y:Int)))),.int .i64 5] 3):=⟨_,rfl⟩
 have b45:=hid (show Below W4.heap.size W4 W5 by rw [hW5];exact (Below.refl _ _).alloc (Nat.le_refl _) _)
 have R5:=hid (R4.out.of_block (b45.out.block _ R4.out.lt))
 have M5:=hid (show W5.rowIs W4.heap.size 3 2 (fun i=>if i=0 then .int .i64 mm else .int .i64 5) by
  rw [hW5,hmm]
  refine World.rowIs_alloc W4 _ 3 _ fun j hi=>?_
  have hi5:j<2:=hi
  have:j=0\/j=1:=by omega
  rcases this with rfl|rfl<;>rfl)
 have HMC:=hid (show CB<W4.heap.size from R4.out.lt)
 have hne:¬ CB=W4.heap.size:=by have:=HMC.out;omega
 have hne':¬ W4.heap.size=CB:=by have:=HMC.out;omega
 have z3:W4.cell? ⟨CB,3,none⟩=some (.slice mp c.ms.length mc):=R4.out.cell (i:=3) (by decide)
 have f3:=R4.out.frozen 3
 have z5:W5.cell? ⟨CB,3,none⟩=some (.slice mp c.ms.length mc):=R5.out.cell (i:=3) (by decide)
 have f5:=R5.out.frozen 3
 rw [hW5] at z5 f5
 go_upto_region 7 with fail
 rw [<- hW5]
 clear z3 f3 z5 f5 hW5
 obtain ⟨MB,hMB⟩:∃ MB,MB=W4.heap.size:=⟨_,rfl⟩
 rw [<- hMB] at M5 hne hne' ⊢
 have G5:=hid (show Below w1.heap.size w1 W5 from G4.out.trans (b45.out.mono G4.out.size))
 obtain ⟨W6,hW6⟩:∃ W6,W6=W5.setCell ⟨CB,3,none⟩ (.slice (some ⟨MB,0,none⟩) 2 2):=⟨_,rfl⟩
 have G6:=hid (show Below w1.heap.size w1 W6 by rw [hW6];exact G5.out.setCell (p:=⟨CB,3,none⟩) HCB.out _)
 have R6:=hid (show W6.rowIs CB 25 5 _ by rw [hW6];exact R5.out.set 3 (.slice (some ⟨MB,0,none⟩) 2 2))
 have M6:=hid (show W6.rowIs MB 3 2 (fun i=>if i=0 then .int .i64 mm else .int .i64 5) by rw [hW6];exact M5.out.of_block (RowKit.Below.heap_setCell _ _ _ _ hne'))
 rw [<- hW6]
 clear hW6 hMB hne hne' M5 R5 R4 G4 G5 b45 HMC
 obtain ⟨c',hc'⟩:∃ c':Plain.Cf,c'=⟨c.n,c.ls,1+(t:Int),[mm,5],1+(m:Int)⟩:=⟨_,rfl⟩
 have hmm2:6<=mm/\mm<=24:=by omega
 have hmay:Plain.mayC c'=true:=by
  have h:=HC.out.1
  unfold Plain.mayC at h ⊢
  simp only [Bool.and_eq_true] at h ⊢
  rw [hc']
  refine ⟨h.1,h.2.1,(Plain.inR_iff _ _ _).2 ⟨by show (1:Int)<=1+(t:Int);omega,by show 1+(t:Int)<=8;omega⟩,(Plain.inR_iff _ _ _).2 ⟨by show (1:Int)<=((2:Nat):Int);decide,by show ((2:Nat):Int)<=3;decide⟩,?_,(Plain.inR_iff _ _ _).2 ⟨by show (0:Int)<=1+(m:Int);omega,by show 1+(m:Int)<=1048576;omega⟩⟩
  show (Plain.cntB mm&&(Plain.cntB 5&&true))=true
  have h1:Plain.cntB mm=true:=(Plain.inR_iff _ _ _).2 ⟨by omega,by omega⟩
  have h2:Plain.cntB 5=true:=(Plain.inR_iff _ _ _).2 ⟨by decide,by decide⟩
  rw [h1,h2];rfl
 have HC':=hid (show Plain.mayC c'=true/\c'.n=4/\c'.ls.length=3/\c'.ms.length=2 from ⟨hmay,by rw [hc'];exact HC.out.2.1,by rw [hc'];exact HC.out.2.2.1,by rw [hc'];rfl⟩)
 obtain ⟨l,hl⟩:∃ l,l=[Plain.askS 1 (1+(x:Int)),Plain.askS 3 (1+(y:Int))]:=⟨_,rfl⟩
 have HSV:=hid (fun (V:Plain.Wo) (hV:V=Plain.runW c' (Plain.Wo.start c') (Plain.fulls l 10))=>Plain.serve_all (c:=c') hmay HC'.out.2.1 (cap:=m) (t:=t) (x:=x) (y:=y) (by rw [hc']) hm2 (by rw [hc']) ht2 hx2 hy2 (by rw [hc',hmm]) (W:=V) (by rw [hV,hl]))
 obtain ⟨W7,hW7⟩:∃ W7,W7=W6.alloc (.cells #[.int .i64 1,.int .i64 1,.int .i64 0,.int .i64 (1+(x:Int)),.int .i64 0,.int .i64 0,.int .i64 0,.int .i64 0,.int .i64 1,.int .i64 3,.int .i64 0,.int .i64 (1+(y:Int)),.int .i64 0,.int .i64 0,.int .i64 0,.int .i64 0] 30):=⟨_,rfl⟩
 have b67:=hid (show Below W6.heap.size W6 W7 by rw [hW7];exact (Below.refl _ _).alloc (Nat.le_refl _) _)
 have H7:=hid (show encSp.Holds W7 (some ⟨W6.heap.size,0,none⟩) l by
  rw [hW7,hl]
  exact list_holds encSp W6 [Plain.askS 1 (1+(x:Int)),Plain.askS 3 (1+(y:Int))] 30)
 have HL2:=hid (show l.length=2 by rw [hl];rfl)
 have HID:=hid (Plain.fulls_ids (l:=l) (by
  intro s hs
  rw [hl] at hs
  simp only [List.mem_cons,List.not_mem_nil,or_false] at hs
  rcases hs with rfl|rfl<;>exact ⟨Int.le_refl _,(show (0:Int)<=100000 by decide)⟩))
 have B7:=hid (show Below w.heap.size w W7 from (B1.out.trans (G6.out.mono B1.out.size)).trans (b67.out.mono (Nat.le_trans B1.out.size G6.out.size)))
 have IW:=hid (show ∀ X,Below W7.heap.size W7 X->CfI X c' (.slice lp c'.ls.length lc) (.slice (some ⟨MB,0,none⟩) c'.ms.length 2) from fun X bx=>by
  have bX:Below W6.heap.size W6 X:=b67.out.trans (bx.mono b67.out.size)
  have I:=HI.out.grow (G6.out.trans (bX.mono G6.out.size))
  have mX:=M6.out.of_block (bX.block _ M6.out.lt)
  rw [hc']
  refine ⟨I.sl,I.ll,.inr ⟨MB,0,2,rfl,fun j hj=>?_⟩,lies_at mX.lt,I.rl,I.bl,(show 2<=9223372036854775807 by decide)⟩
  have hj2:j<2:=hj
  have e:=mX.cell (i:=j) hj2
  have:j=0\/j=1:=by omega
  rw [Nat.zero_add]
  rcases this with rfl|rfl
  ·exact e
  ·exact e)
 have CW:=hid (show ∀ X,Below W7.heap.size W7 X->X.cell? ⟨CB,0,none⟩=some (.int .i64 c'.n)/\X.cell? ⟨CB,1,none⟩=some (.slice lp c'.ls.length lc)/\X.cell? ⟨CB,2,none⟩=some (.int .i64 c'.t)/\X.cell? ⟨CB,3,none⟩=some (.slice (some ⟨MB,0,none⟩) c'.ms.length 2)/\X.cell? ⟨CB,4,none⟩=some (.int .i64 c'.cap) from fun X bx=>by
  have bX:Below W6.heap.size W6 X:=b67.out.trans (bx.mono b67.out.size)
  have rX:=R6.out.of_block (bX.block _ R6.out.lt)
  rw [hc']
  exact ⟨rX.cell (i:=0) (by decide),rX.cell (i:=1) (by decide),rX.cell (i:=2) (by decide),rX.cell (i:=3) (by decide),rX.cell (i:=4) (by decide)⟩)
 go_upto_region 8 with fail
 rw [<- hW7]
 obtain ⟨SB,hSB⟩:∃ SB,SB=W6.heap.size:=⟨_,rfl⟩
 rw [<- hSB] at H7 ⊢
 clear hW7 hSB hc' hmay hl b67 M6 R6 G6 hmm hmm2 HC HI HLAB HCB B1
 go_wp2
 go_loopg [14,15] 10 (fun gg s14 s15 wx=>∃ (j:Nat) (q:Option Addr) (cq:Nat),j<=10/\10-j<=gg/\s15=.int .i64 j/\s14=.slice q (2+21*j) cq/\Aside (Below W7.heap.size W7 wx/\encSp.Holds wx q (Plain.fulls l j)/\(q=none->cq=0)))
 case atStart=>exact ⟨0,some ⟨SB,0,none⟩,2,Nat.zero_le _,by omega,rfl,rfl,(show Aside _ from ⟨Below.refl _ _,H7.out,fun e=>by cases e⟩)⟩
 case round =>
  clear H7
  obtain ⟨j,q,cq,hj,hg,rfl,rfl,A⟩:=hrel
  obtain ⟨N,hN⟩:∃ N,N=2+21*j:=⟨_,rfl⟩
  have HLN:=hid (show (Plain.fulls l j).length=N by rw [Plain.fulls_len,HL2.out,hN])
  have hN2:N<=212:=by omega
  rw [<- hN]
  have HA:=hid A.out
  have HNN:=hid hN
  clear A hN
  by_cases hlt:j<10
  ·have hltz:(j:Int)<10:=by omega
   have K:=full_c q N cq (Plain.fulls l j) HLN.out (by omega) HA.out.2.2 wr HA.out.2.1
   go_wp2_with fail
   refine K.mono ?_
   rintro e w8 ⟨q8,c8,rfl,sp8⟩
   have NX:=hid (show Below W7.heap.size W7 w8/\encSp.Holds w8 q8 (Plain.fulls l (j+1))/\(q8=none->c8=0) from ⟨HA.out.1.trans (sp8.be.mono HA.out.1.size),sp8.both.1,sp8.both.2⟩)
   have HE:=hid (show N+21=2+21*(j+1) by have:=HNN.out;omega)
   clear K sp8 HA
   go_wp2
   go_roundg (10-(j+1))
   case measure=>omega
   case rel=>exact ⟨j+1,q8,c8,by omega,by omega,by go_num,by rw [HE.out],(show Aside _ from NX.out)⟩
  ·have hltz:¬ (j:Int)<10:=by omega
   have ej:j=10:=by omega
   subst ej
   obtain ⟨k0,k1,k2,k3,k4⟩:=CW.out _ HA.out.1
   have B8:=hid (show Below w.heap.size w wr from B7.out.trans (HA.out.1.mono B7.out.size))
   have K:=ended_c c' lp (some ⟨MB,0,none⟩) lc 2 q N cq (Plain.fulls l 10) HLN.out (by omega) HC'.out.1 HC'.out.2.1 HC'.out.2.2.1 HC'.out.2.2.2 (fun s hs=>wf_small (HID.out 10 (by have:=HL2.out;omega) s hs)) HA.out.2.2 wr (IW.out _ HA.out.1) (HTB.out _ B8.out) HA.out.2.1
   have HV:=hid (HSV.out _ rfl)
   clear HSV IW CW HID HA
   go_wp2_with fail
   refine K.mono ?_
   rintro e w9 ⟨rp,rc,pp,pc,spp,sc,w0,P,G,rfl,b9,en⟩
   generalize Plain.runW c' (Plain.Wo.start c') (Plain.fulls l 10)=V at en HV
   have B9:=hid (show Below w.heap.size w w9 from B8.out.trans (b9.mono B8.out.size))
   obtain ⟨pb,po,epp,pcl⟩:=en.purse (by omega)
   subst epp
   have p0:=pcl 0 (by omega)
   have p1:=pcl 1 (by omega)
   have p3:=pcl 3 (by omega)
   obtain ⟨_,_,_,x03,_,_⟩:=en.pcells (i:=0) (k:=0) (by omega) (by omega)
   obtain ⟨x10,_,_,x13,_,_⟩:=en.pcells (i:=1) (k:=0) (by omega) (by omega)
   obtain ⟨_,_,_,x33,_,_⟩:=en.pcells (i:=3) (k:=0) (by omega) (by omega)
   obtain ⟨v1,v2,v3,v4⟩:=HV.out
   rw [v3,show 0*6+3=3 from rfl] at x03
   rw [v1,show 0*6+3=3 from rfl] at x13
   rw [v2,show 0*6+3=3 from rfl] at x33
   rw [v4,show 0*6=0 from rfl] at x10
   rw [Nat.add_zero] at p0
   clear K k0 k1 k2 k3 k4 pcl en b9 v1 v2 v3 v4 HV
   obtain ⟨X,hX⟩:∃ X:Int,X=1+(x:Int):=⟨_,rfl⟩
   obtain ⟨Y,hY⟩:∃ Y:Int,Y=1+(y:Int):=⟨_,rfl⟩
   rw [<- hX] at x13 x10 ⊢
   rw [<- hY] at x33 ⊢
   have eX:(X==X)=true:=by simp
   have eY:(Y==Y)=true:=by simp
   clear hX hY
   go_wp2
   go_ret
   exact ⟨rfl,B9.out⟩
end Go.Proofs.YtlohgiichckjmaaGreatDoor

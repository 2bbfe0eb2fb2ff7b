/-
 Laid together: what the law asks of these.
-/
import Derived.Deep.RegionHeld3
import Derived.Test.YtgjmhojmbgfkhaaGreatDoorM19
namespace Go.Proofs.YtgjmhojmbgfkhaaGreatDoor
set_option maxHeartbeats 16000000
set_option maxRecDepth 100000
open Go.RowKit Go.Shelf Go.Sort
theorem viewTwice_c (p:Option Addr) (n cap:Nat) (ls:List Int) (hbig:n<=9223372036854775807) (hn:ls.length=n) (hwf:∀ x,x∈ls->In64 x) (p2:Option Addr) (n2 cap2:Nat) (ds:List Plain.Sp) (hn2:ds.length=n2) (hbig2:n2<=9223372036854775807) (hd:∀ d,d∈ds->InX d) (a b:Int) (ha:In64 a) (hb:In64 b)
  (w:World) (htb:∀ k,2<=k->k<=6->w.cell? ⟨0,k,none⟩=some (.int .i64 (k:Nat))) (hp:NumsQ w p ls) (hp2:encSp.Holds w p2 ds) :
  Calls Tryz.prog 3 #[.slice p n cap,.slice p2 n2 cap2,.int .i64 a,.int .i64 b] w fun e w'=>e=.returned (.bool true)/\Below w.heap.size w w':=by
 have hb0:0<w.heap.size:=World.block_lt_of_cell? (w:=w) (h:=htb 2 (by omega) (by omega))
 have HTB:=hid (fun X (bx:Below w.heap.size w X) k (h2:2<=k) (h6:k<=6)=>(bx.cell (p:=⟨0,k,none⟩) hb0).trans (htb k h2 h6))
 have KC:=cfg_c 1 99 5 (by decide) (by decide) (by decide) p n cap ls hbig hn hwf w hp
 have KS:=hid (fun X (bx:Below w.heap.size w X)=>stepsOf_c p2 n2 cap2 60 ds hn2 hbig2 (by omega) hd X (hp2.grow bx))
 have KA:=fun X=>picked_any a 16 ha.1 ha.2 (by omega) (by omega) X
 have KB:=fun X=>picked_any b 16 hb.1 hb.2 (by omega) (by omega) X
 have hxr:0<=a%16/\a%16<16:=by omega
 have hyr:0<=b%16/\b%16<16:=by omega
 generalize a%16=x at KA hxr
 generalize b%16=y at KB hyr
 clear hp hp2 hwf hd htb hb0 ha hb
 go_enter Tryz.func3,Tryz.ntmps3
 go_wp2_with fail
 refine KC.mono ?_
 rintro e w1 ⟨c,lp,lc,mp,mc,hm,hc4,hc3,hc2,hcc,rfl,hI,b1⟩
 clear hcc
 have HC:=hid (And.intro hm (And.intro hc4 (And.intro hc3 hc2)))
 obtain ⟨W2,hW2⟩:∃ W2,W2=w1.alloc (boxC c (.slice lp c.ls.length lc) (.slice mp c.ms.length mc)):=⟨_,rfl⟩
 have b2:Below w1.heap.size w1 W2:=by rw [hW2];exact (Below.refl _ _).alloc (Nat.le_refl _) _
 have B2:=hid (show Below w.heap.size w W2 from b1.trans (b2.mono b1.size))
 have C2:=hid (show CellC W2 w1.heap.size c (.slice lp c.ls.length lc) (.slice mp c.ms.length mc) by rw [hW2];exact CellC.start w1 c (.slice lp c.ls.length lc) (.slice mp c.ms.length mc))
 have I2:=hid (hI.grow b2)
 clear KC hm hc4 hc3 hc2 hI b1 b2
 go_upto_region 2 with fail
 rw [<- hW2]
 obtain ⟨CB,hCB⟩:∃ CB,CB=w1.heap.size:=⟨_,rfl⟩
 rw [<- hCB] at C2 ⊢
 clear hW2 hCB
 have CW:=hid (fun X (bx:Below W2.heap.size W2 X)=>(C2.out.below bx C2.out.lt:CellC X CB c (.slice lp c.ls.length lc) (.slice mp c.ms.length mc)))
 have IW:=hid (fun X (bx:Below W2.heap.size W2 X)=>I2.out.grow bx)
 have BW:=hid (fun X (bx:Below W2.heap.size W2 X)=>B2.out.trans (bx.mono B2.out.size))
 clear C2 I2
 obtain ⟨k0,k1,k2,k3,k4⟩:=CW.out W2 (Below.refl _ _)
 have bD:=hid (show Below W2.heap.size W2 W2.drew from (Below.refl _ _).drew)
 go_region_held3 (fun w'=>w'.cell? ⟨CB,0,none⟩=some (.int .i64 c.n)/\w'.cell? ⟨CB,1,none⟩=some (.slice lp c.ls.length lc)/\w'.cell? ⟨CB,2,none⟩=some (.int .i64 c.t)/\w'.cell? ⟨CB,3,none⟩=some (.slice mp c.ms.length mc)/\w'.cell? ⟨CB,4,none⟩=some (.int .i64 c.cap)) (go_keep)
  ((
   first
   | (go_at_call 8;refine (KS.out _ (BW.out _ bD.out)).mono ?_;rintro e w3 ⟨q,kc,L,rfl,sp,hL,hid5⟩;have B3:=hid (show Below W2.heap.size W2 w3 from bD.out.trans sp.be);have HSP:=hid sp;have HL:=hid hL;have HI5:=hid hid5;obtain ⟨d0,d1,d2,d3,d4⟩:=CW.out _ B3.out;clear sp hL hid5)
   | (go_at_call 7;refine (wplay_yes c lp mp lc mc 4 2 q L.length kc L rfl (by have:=HL.out;omega) HC.out.1 HC.out.2.1 HC.out.2.2.2 (fun _=>by rw [HC.out.2.2.1];omega) (fun s hs=>by have:=HI5.out s hs;exact wf_small this) w3 (IW.out _ B3.out) (HTB.out _ (BW.out _ B3.out)) HSP.out.hold).mono ?_;rintro e w4 ⟨TB,R,rfl,hR,hx,ho,_,b4⟩;have B4:=hid (show Below W2.heap.size W2 w4 from B3.out.trans (b4.mono B3.out.size));have HR:=hid hR;have HX:=hid hx;have HO:=hid ho;obtain ⟨e0,e1,e2,e3,e4⟩:=CW.out _ B4.out;clear hR hx ho b4)))
 rename_i hlast
 clear hlast
 have HTD:=hid (show ∀ t,t∈R.map (·.x)->TdB t from fun t ht=>by
  rw [HX.out] at ht
  obtain ⟨u,hu,rfl⟩:=List.mem_map.1 ht
  exact TdB.of (Plain.tls_bd (n:=4) (m:=2) HC.out.1 HC.out.2.1 HC.out.2.2.2 L 0 (Plain.Wo.start c) (Plain.Wok.start HC.out.2.1) (by have:=HL.out;omega) u hu))
 obtain ⟨N,hN⟩:∃ N,N=L.length:=⟨_,rfl⟩
 have hN6:N<=60:=by rw [hN];exact HL.out
 rw [<- hN] at HR ⊢
 clear hN HX HL HI5 HSP B3 d0 d1 d2 d3 d4 k0 k1 k2 k3 k4 bD KS
 go_wp2_with fail
 refine (KA _).mono ?_
 rintro e w9 ⟨rfl,hx9⟩
 have hy9:=hx9.symm
 clear hx9 KA
 subst hy9
 go_wp2_with fail
 refine (KB _).mono ?_
 rintro e w9 ⟨rfl,hx9⟩
 have hy9:=hx9.symm
 clear hx9 KB
 subst hy9
 have K5:=of_16 c HC.out.2.1 HC.out.1 (.slice lp c.ls.length lc) (.slice mp c.ms.length mc) (some ⟨TB,0,none⟩) N N R HR.out x hxr HTD.out (by omega) w4 (IW.out _ B4.out) HO.out
 go_wp2_with fail
 refine K5.mono ?_
 rintro e w5 ⟨q5,c5,D5,rfl,hl5,hx5,ho5,b5⟩
 have B5:=hid (show Below W2.heap.size W2 w5 from B4.out.trans (b5.mono B4.out.size))
 have L5:=hid hl5
 have X5:=hid hx5
 have T5:=hid (show ∀ t,t∈D5.map (·.x)->TdB t from fun t ht=>by rw [hx5] at ht;exact TdB.view HTD.out x t ht)
 have O5:=hid ho5
 have G5:=hid (show Below w4.heap.size w4 w5 from b5)
 clear K5 hl5 hx5 ho5 b5 e0 e1 e2 e3 e4
 obtain ⟨g50,g51,g52,g53,g54⟩:=CW.out _ B5.out
 have K6:=of_16 c HC.out.2.1 HC.out.1 (.slice lp c.ls.length lc) (.slice mp c.ms.length mc) q5 N c5 D5 L5.out y hyr T5.out (by omega) w5 (IW.out _ B5.out) O5.out
 go_wp2_with fail
 refine K6.mono ?_
 rintro e w6 ⟨q6,c6,D6,rfl,hl6,hx6,ho6,b6⟩
 have B6:=hid (show Below W2.heap.size W2 w6 from B5.out.trans (b6.mono B5.out.size))
 have L6:=hid hl6
 have X6:=hid hx6
 have T6:=hid (show ∀ t,t∈D6.map (·.x)->TdB t from fun t ht=>by rw [hx6] at ht;exact TdB.view T5.out y t ht)
 have O6:=hid ho6
 have G6:=hid (show Below w5.heap.size w5 w6 from b6)
 clear K6 hl6 hx6 ho6 b6 g50 g51 g52 g53 g54
 obtain ⟨g60,g61,g62,g63,g64⟩:=CW.out _ B6.out
 have hz:=and_rd hxr hyr
 generalize hzz:bits .and .i64 x y=z at hz
 have HZZ:=hid hzz
 have K7:=of_16 c HC.out.2.1 HC.out.1 (.slice lp c.ls.length lc) (.slice mp c.ms.length mc) (some ⟨TB,0,none⟩) N N R HR.out z hz.1 HTD.out (by omega) w6 (IW.out _ B6.out) (HO.out.grow (G5.out.trans (G6.out.mono G5.out.size)))
 go_wp2_with fail
 refine K7.mono ?_
 rintro e w7 ⟨q7,c7,D7,rfl,hl7,hx7,ho7,b7⟩
 have B7:=hid (show Below W2.heap.size W2 w7 from B6.out.trans (b7.mono B6.out.size))
 have L7:=hid hl7
 have X7:=hid hx7
 have T7:=hid (show ∀ t,t∈D7.map (·.x)->TdB t from fun t ht=>by rw [hx7] at ht;exact TdB.view HTD.out z t ht)
 have O7:=hid ho7
 have G7:=hid (show Below w6.heap.size w6 w7 from b7)
 clear K7 hl7 hx7 ho7 b7 g60 g61 g62 g63 g64
 obtain ⟨g70,g71,g72,g73,g74⟩:=CW.out _ B7.out
 have K8:=of_16 c HC.out.2.1 HC.out.1 (.slice lp c.ls.length lc) (.slice mp c.ms.length mc) q5 N c5 D5 L5.out x hxr T5.out (by omega) w7 (IW.out _ B7.out) (O5.out.grow (G6.out.trans (G7.out.mono G6.out.size)))
 go_wp2_with fail
 refine K8.mono ?_
 rintro e w8 ⟨q8,c8,D8,rfl,hl8,hx8,ho8,b8⟩
 have B8:=hid (show Below W2.heap.size W2 w8 from B7.out.trans (b8.mono B7.out.size))
 have L8:=hid hl8
 have X8:=hid hx8
 have T8:=hid (show ∀ t,t∈D8.map (·.x)->TdB t from fun t ht=>by rw [hx8] at ht;exact TdB.view T5.out x t ht)
 have O8:=hid ho8
 have G8:=hid (show Below w7.heap.size w7 w8 from b8)
 clear K8 hl8 hx8 ho8 b8 g70 g71 g72 g73 g74
 obtain ⟨g80,g81,g82,g83,g84⟩:=CW.out _ B8.out
 have K9:=sure_c w8 (HTB.out _ (BW.out _ B8.out))
 go_wp2_with fail
 refine K9.mono ?_
 rintro e w9 ⟨rfl,b9⟩
 have G9:=hid b9
 have B9:=hid (show Below W2.heap.size W2 w9 from B8.out.trans (b9.mono B8.out.size))
 clear K9 b9
 have hNN:((N:Int)==(N:Int))=true:=by simp
 have K10:=Vi.sameTolds_c D6 D7 N L6.out (by omega) (by rw [X6.out,X7.out,X5.out];exact viewL_two x y z _ hz.2) (len_of T6.out) q6 q7 c6 c7 w9 (O6.out.grow (G7.out.trans ((G8.out.mono G7.out.size).trans (G9.out.mono (Nat.le_trans G7.out.size G8.out.size))))) (O7.out.grow (G8.out.trans (G9.out.mono G8.out.size)))
 go_wp2_with fail
 refine K10.mono ?_
 rintro e w10 ⟨rfl,b10⟩
 have G10:=hid b10
 clear K10 b10
 have K11:=Vi.sameTolds_c D8 D5 N L8.out (by omega) (by rw [X8.out,X5.out];exact viewL_same x _) (len_of T8.out) q8 q5 c8 c5 w10 (O8.out.grow (G9.out.trans (G10.out.mono G9.out.size))) (O5.out.grow (G6.out.trans ((G7.out.mono G6.out.size).trans ((G8.out.mono (Nat.le_trans G6.out.size G7.out.size)).trans ((G9.out.mono (Nat.le_trans G6.out.size (Nat.le_trans G7.out.size G8.out.size))).trans (G10.out.mono (Nat.le_trans G6.out.size (Nat.le_trans G7.out.size (Nat.le_trans G8.out.size G9.out.size)))))))))
 go_wp2_with fail
 refine K11.mono ?_
 rintro e w11 ⟨rfl,b11⟩
 have BF:=hid (show Below w.heap.size w w11 from (BW.out _ B9.out).trans ((G10.out.trans (b11.mono G10.out.size)).mono (BW.out _ B9.out).size))
 clear K11 b11
 go_wp2
 go_ret
 exact ⟨rfl,BF.out⟩
end Go.Proofs.YtgjmhojmbgfkhaaGreatDoor

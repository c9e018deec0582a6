import Derived.Test.YtblkkhfdeaaidaaGreatDoorTxPaAndLfp
import Derived.Test.YtblkkhfdeaaidaaGreatDoorStOutAndDrCnt
import Derived.Test.YtblkkhfdeaaidaaGreatDoorSetsStillAndSetsIs
import Derived.Test.YtblkkhfdeaaidaaGreatDoorShortMathAndTxPut
import Derived.Test.YtblkkhfdeaaidaaGreatDoorDrAsk2AndConcR
set_option maxHeartbeats 3200000
set_option maxRecDepth 100000
namespace Go.Proofs.YtblkkhfdeaaidaaGreatDoor
open Go.RowKit
def zN(Y:Xs)(n:Nat):List Int:=[(jC [bit Y .null n]:Int),(jC (Y (.f n)):Int),(jC (Y (.g n)):Int)]
def oK(Y:Xs)(n:Nat):List Int:=(List.range n).flatMap (zN Y)
def yt(p:bQ)(o:List UInt8):Prop:=∃Y,ow p.T p.N p.R Y/\bit Y .gr 0=false/\o=jh (oK Y p.N)
theorem Ff(Y:Xs)(n:Nat):oK Y (n+1)=oK Y n++zN Y n:=by
 unfold oK;rw[List.range_succ,List.flatMap_append];simp
theorem Nv(Y:Xs):∀n,(oK Y n).length=n*3
 |0=>rfl
 |n+1=>by rw[Ff,List.length_append,Nv Y n];simp[zN];omega
theorem yt.one{p:bQ}{o o':List UInt8}(hm:aD p.T p.N p.R=true)(h:yt p o)(k:yt p o'):o=o':=by
 obtain⟨Y,h1,h2,rfl⟩:=h;obtain⟨Z,k1,k2,rfl⟩:=k;have hf:=(Hr hm).1;obtain⟨l1,l2,l3⟩:=LX hf h1.bU h1.snd (h1.held h2) h1.fin;obtain⟨m1,m2,m3⟩:=LX hf k1.bU k1.snd (k1.held k2) k1.fin
 have key:∀n,n<=p.N->oK Y n=oK Z n:=by
  intro n
  induction n with
  |zero=>intro _;rfl
  |succ n ih=>
   intro hn;rw[Ff,Ff,ih (by omega)]
   have e1:bit Y .null n=bit Z .null n:=by
    rw[Bool.eq_iff_iff];exact(l1 n (by omega)).trans (m1 n (by omega)).symm
   have f1:(Y (.f n)).length=p.T:=h1.bU (.f n) p.T (by simp[bA,show n<p.N by omega]);have f2:(Z (.f n)).length=p.T:=k1.bU (.f n) p.T (by simp[bA,show n<p.N by omega]);have g1:(Y (.g n)).length=p.T+1:=h1.bU (.g n) (p.T+1) (by simp[bA,show n<p.N by omega]);have g2:(Z (.g n)).length=p.T+1:=k1.bU (.g n) (p.T+1) (by simp[bA,show n<p.N by omega]);have e2:Y (.f n)=Z (.f n):=En (by omega) fun i hi=>(l2 n i (by omega) (by omega)).trans (m2 n i (by omega) (by omega)).symm;have e3:Y (.g n)=Z (.g n):=En (by omega) fun i hi=>(l3 n i (by omega) (by omega)).trans (m3 n i (by omega) (by omega)).symm;unfold zN;rw[e1,e2,e3]
 rw[key p.N (Nat.le_refl _)]
theorem Nw{Y:Xs}{T N:Nat}{R:List Ru}(h:ow T N R Y)(hT:T<=8):∀n,n<=N->∀x∈oK Y n,fQ x
 |0,_,x,hx=>by simp[oK]at hx
 |n+1,hn,x,hx=>by
  rw[Ff,List.mem_append]at hx;rcases hx with hx|hx
  ·exact Nw h hT n (by omega) x hx
  ·have f1:(Y (.f n)).length=T:=h.bU (.f n) T (by simp[bA,show n<N by omega])
   have g1:(Y (.g n)).length=T+1:=h.bU (.g n) (T+1) (by simp[bA,show n<N by omega]);have h1:=Ji [bit Y .null n];have h2:=Ji (Y (.f n));have h3:=Ji (Y (.g n));simp only[List.length_cons,List.length_nil]at h1;simp only[zN,List.mem_cons,List.not_mem_nil,or_false]at hx;rcases hx with rfl|rfl|rfl<;>exact⟨by omega,by omega⟩
section
variable{w w':World}{pb B G:Nat}{rv:Value}{p:bQ}
theorem afi(h:aZ w pb B rv p)(hE:cB G w)(hG:G<=pb)(hm:aD p.T p.N p.R=true):Calls Tryz.prog 16 #[.pointer (some ⟨pb,0,none⟩)] w fun e w'=> ∃o,yt p o/\e= .returned (.string ⟨o.toArray⟩)/\Below w.heap.size w w':=by
 obtain⟨c0,c1,c2,-⟩:=h.cells;obtain⟨ra,rc,aG⟩:=h.rules.at.1;subst aG;have hpb:=h.below;obtain⟨hT,hN1,hN,_,_⟩:=fV hm;have HE:Hid (cB G w/\G<=pb/\pb<w.heap.size/\p.T<=8/\p.N<=12):=⟨hE,hG,hpb,hT,hN⟩;obtain⟨N,Fg⟩:∃n,p.N=n:=⟨_,rfl⟩
 have st:Calls Tryz.prog 27 #[.agg #[.int .i64 p.T,.int .i64 p.N,.slice ra p.R.length rc]] w fun e w'=> ∃na nc fa fc ga gc Y,e= .returned (.tuple #[.agg #[.slice na N nc,.slice fa N fc,.slice ga N gc],.int .i64 0])/\Below w.heap.size w w'/\ow p.T p.N p.R Y/\bit Y .gr 0=false/\kL w' (.slice na N nc) (Y .null)/\oZ w' (.slice fa N fc) ((List.range p.N).map fun n=>Y (.f n))/\oZ w' (.slice ga N gc) ((List.range p.N).map fun n=>Y (.g n)):=by
  refine(TY (T:=p.T) (N:=p.N) h.rules.at hm).mono fun e w' ⟨nv,fv,gv,vf,vg,h1,h2,gb,B',Y,h3,h4,h5,h6,h7,h8⟩=> ?_;have k1:=L9 h6;have k2:=Ud h6 h7;have k3:=acC h6 h8;obtain⟨na,nc,hn⟩:=k1.1;obtain⟨fa,fc,hf⟩:=k2.1;obtain⟨ga,gc,hg⟩:=k3.1;have hl:=h4.bU .null p.N rfl;rw[hl,Fg]at hn;rw[List.length_map,List.length_range,Fg]at hf hg;subst hn hf hg;exact⟨na,nc,fa,fc,ga,gc,Y,h1,h2,h4,h5,k1,k2,k3⟩
 have HN:Hid (p.N=N):=Fg;rw[Fg]at c1 st;clear h hE hm Fg
 go_enter Tryz.func16,Tryz.ntmps16
 go_upto_region 2 with
  (go_at_call 27;refine st.mono ?_;rintro e w2 ⟨na,nc,fa,fc,ga,gc,Y,rfl,h2,h4,h5,k1,k2,k3⟩
   clear st)
 obtain⟨q,hq⟩:∃x,w2.heap.size=x:=⟨_,rfl⟩;obtain⟨W3,hW⟩:∃V,w2.alloc (.cells #[.slice na N nc,.slice fa N fc,.slice ga N gc] 56)=V:=⟨_,rfl⟩;have hb3:Below w2.heap.size w2 W3:=by rw[<-hW];exact(Below.refl _ _).alloc (Nat.le_refl _) _
 have hx3:=heap_alloc_new w2 (.cells #[.slice na N nc,.slice fa N fc,.slice ga N gc] 56);rw[hW,hq]at hx3;rw[hW];rw[hq];have h3:=h2.trans (hb3.mono h2.size);have Jj:∀wq,Below W3.heap.size W3 wq->∀b o,b<w2.heap.size->wq.cell? ⟨b,o,none⟩=w2.cell? ⟨b,o,none⟩:=fun wq hw b o hb=>World.cell?_of_block ((hw.block b (Nat.lt_of_lt_of_le hb hb3.size)).trans (hb3.block b hb))
 have HS:Hid (∀wq,Below W3.heap.size W3 wq->(wq.cell? ⟨q,0,none⟩=some (.slice na N nc)/\wq.cell? ⟨q,1,none⟩=some (.slice fa N fc)/\wq.cell? ⟨q,2,none⟩=some (.slice ga N gc))/\Below w.heap.size w wq/\kL wq (.slice na N nc) (Y .null)/\oZ wq (.slice fa N fc) ((List.range N).map fun n=>Y (.f n))/\oZ wq (.slice ga N gc) ((List.range N).map fun n=>Y (.g n))):=fun wq hw=>by
  have hy:=(hw.block _ (Array.getElem?_eq_some_iff.1 hx3).1).trans hx3;exact⟨⟨ai hy rfl,ai hy rfl,ai hy rfl⟩,h3.trans (hw.mono h3.size),k1.same (Jj wq hw),k2.same (Jj wq hw),k3.same (Jj wq hw)⟩
 have HY:Hid (ow p.T N p.R Y/\bit Y .gr 0=false):=⟨h4,h5⟩;have af4:N<=12:=by have:=HE.out.2.2.2.2;have:=HN.out;omega
 obtain⟨⟨s0,s1,s2⟩,-,-⟩:=HS.out W3 (Below.refl _ _);clear h2 h3 h4 h5 k1 k2 k3 hq hW hb3 hx3 Jj
 go_wp2_with fail
 clear s0 s1 s2
 go_loopw [5,19] (fun v5 v19 wr=> ∃(i:Nat) (lv:Value),lv=v5/\v19= .int .i64 i/\i<=N/\Below W3.heap.size W3 wr/\wr.ownsRow W3.heap.size 3 1 lv (i*3) ((oK Y i).map (Value.int .i64))) (fun _ v _=>N-(intOf v).toNat)
 case atStart=>exact⟨0,_,rfl,rfl,Nat.zero_le _,Below.refl _ _,World.ownsRow_nil ..⟩
 case round=>
  obtain⟨i,lv,rfl,rfl,hi,hB,hO⟩:=hrel;obtain⟨la,lc,hlv⟩:=bK hO;subst hlv;by_cases hlt:i<N
  ·have d1:decide ((i:Int)<(N:Int))=true:=decide_eq_true (by omega)
   obtain⟨⟨s0,s1,s2⟩,-,hb,hf,hg⟩:=HS.out wr hB;have hnl:=HY.out.1.bU .null N rfl;obtain⟨ng,no,TD,e1,e2⟩:=hb.2 i (by omega);obtain rfl:na=some ⟨ng,no,none⟩:=by injection e1
   obtain⟨fg,fo,fc',fr,e3,e4,Jk⟩:=hf.2 i (by simpa using hlt);obtain rfl:fa=some ⟨fg,fo,none⟩:=by injection e3
   obtain⟨gg,go',gc',gr,e5,e6,hgb⟩:=hg.2 i (by simpa using hlt);obtain rfl:ga=some ⟨gg,go',none⟩:=by injection e5
   rw[show ((List.range N).map fun n=>Y (.f n)).getD i []=Y (.f i) by simp[List.getD,hlt]]at Jk;rw[show ((List.range N).map fun n=>Y (.g n)).getD i []=Y (.g i) by simp[List.getD,hlt]]at hgb;obtain⟨Ny,Nz,hfr⟩:=Jk.1;obtain⟨NA,NC,hgr⟩:=hgb.1;subst hfr hgr;have hfl:(Y (.f i)).length=p.T:=HY.out.1.bU (.f i) p.T (by simp[bA,hlt]);have hgl:(Y (.g i)).length=p.T+1:=HY.out.1.bU (.g i) (p.T+1) (by simp[bA,hlt]);have hT8:=HE.out.2.2.2.1;obtain⟨nb,hnb⟩:∃b,(Y .null).getD i false=b:=⟨_,rfl⟩;rw[hnb]at e2
   have HM:Hid (zN Y i=[(jC [nb]:Int),(jC (Y (.f i)):Int),(jC (Y (.g i)):Int)]):=by
    show _=_;unfold zN bit;rw[hnb]
   have fM:Hid (∀wq,Below wr.heap.size wr wq->(wq.cell? ⟨q,1,none⟩=some (.slice (some ⟨fg,fo,none⟩) N fc)/\wq.cell? ⟨q,2,none⟩=some (.slice (some ⟨gg,go',none⟩) N gc)/\wq.cell? ⟨fg,fo+i,none⟩=some (.slice Ny (Y (.f i)).length Nz)/\wq.cell? ⟨gg,go'+i,none⟩=some (.slice NA (Y (.g i)).length NC))/\kL wq (.slice Ny (Y (.f i)).length Nz) (Y (.f i))/\kL wq (.slice NA (Y (.g i)).length NC) (Y (.g i))):=fun wq hq=>by
    have hc:∀b o,b<wr.heap.size->wq.cell? ⟨b,o,none⟩=wr.cell? ⟨b,o,none⟩:=fun b o hb=>World.cell?_of_block (hq.block b hb);exact⟨⟨(hc _ _ (World.block_lt_of_cell? _ _ s1)).trans s1,(hc _ _ (World.block_lt_of_cell? _ _ s2)).trans s2,(hc _ _ (World.block_lt_of_cell? _ _ e4)).trans e4,(hc _ _ (World.block_lt_of_cell? _ _ e6)).trans e6⟩,Jk.same hc,hgb.same hc⟩
   have HO:Hid (wr.ownsRow W3.heap.size 3 1 (.slice la (i*3) lc) (i*3) ((oK Y i).map (Value.int .i64))/\Below W3.heap.size W3 wr):=⟨hO,hB⟩
   have HR:Hid (q<W3.heap.size/\fg<W3.heap.size/\gg<W3.heap.size):=by
    obtain⟨⟨t0,-,-⟩,-,-,t4,t5⟩:=HS.out W3 (Below.refl _ _);obtain⟨b1,o1,c1',r1,x1,x2,-⟩:=t4.2 i (by simpa using hlt);obtain⟨b2,o2,c2',r2,y1,y2,-⟩:=t5.2 i (by simpa using hlt);injection x1 with x1;injection x1 with x1;injection x1 with x1;injection y1 with y1;injection y1 with y1;injection y1 with y1;subst x1 y1;exact⟨World.block_lt_of_cell? _ _ t0,World.block_lt_of_cell? _ _ x2,World.block_lt_of_cell? _ _ y2⟩
   have HL:Hid ((Y (.f i)).length<=1000/\(Y (.g i)).length<=1000):=⟨by omega,by omega⟩;clear hb hf hg e1 e3 e5 Jk hgb hnl hfl hgl hnb hO hB s1 s2 e4 e6
   go_upto_region 6 with fail
   obtain⟨Wd,hWd⟩:∃V,wr.drew=V:=⟨_,rfl⟩;have hBd:Below wr.heap.size wr Wd:=by rw[<-hWd];exact(Below.refl _ _).drew
   have S0:=(fM.out Wd hBd).1;obtain⟨Wb,ND⟩:∃V,Wd.alloc (.cells #[.bool nb] 4)=V:=⟨_,rfl⟩;have hBb:Below wr.heap.size wr Wb:=by rw[<-ND];exact hBd.alloc hBd.size _
   have hxb:=heap_alloc_new Wd (.cells #[.bool nb] 4);rw[ND]at hxb;obtain⟨S1,hf1,hg1⟩:=fM.out Wb hBb
   have n1:=Nt (w:=Wb) (v:= .slice (some ⟨Wd.heap.size,0,none⟩) 1 1) (X:=[nb]) ⟨⟨_,_,rfl⟩,fun j hj=>by
    have:j=0:=by simpa using hj
    subst this
    exact⟨Wd.heap.size,0,1,rfl,ai hxb rfl⟩⟩ (by simp)
   have n2:=Nt hf1 HL.out.1;have n3:=Nt hg1 HL.out.2;obtain⟨k1,hk1⟩:∃k,jC [nb]=k:=⟨_,rfl⟩;obtain⟨k2,hk2⟩:∃k,jC (Y (.f i))=k:=⟨_,rfl⟩;obtain⟨k3,hk3⟩:∃k,jC (Y (.g i))=k:=⟨_,rfl⟩;rw[hk1]at n1 HM;rw[hk2]at n2 HM;rw[hk3]at n3 HM;obtain⟨Wc,hWc⟩:∃V,Wb.alloc (.cells #[.int .i64 (k1:Int),.int .i64 (k2:Int),.int .i64 (k3:Int)] 3)=V:=⟨_,rfl⟩;have nZ:Below wr.heap.size wr Wc:=by rw[<-hWc];exact hBb.alloc hBb.size _
   have hxc:=heap_alloc_new Wb (.cells #[.int .i64 (k1:Int),.int .i64 (k2:Int),.int .i64 (k3:Int)] 3);rw[hWc]at hxc;have hnw:=World.news_of_block hxc;have S2:=(fM.out Wc nZ).1;have NE:=jg HO.out.1 fun g hg=>nZ.block g (HO.out.1.lt g hg).2;have hbc:=Nat.le_trans HO.out.2.size nZ.size;have HC:Hid (Below W3.heap.size W3 Wc/\Below wr.heap.size wr Wc):=⟨HO.out.2.trans (nZ.mono HO.out.2.size),nZ⟩;have m1:i*3+3<=maxLen:=by unfold maxLen;omega
   have m2:(i*3+3)*8<=140737488355328:=by omega
   obtain⟨i5,hi5,oL,oM,qQ⟩:=info_parts Tryz.infoIntD;clear hBd hBb hxb hf1 hg1 hk1 hk2 hk3 nZ hxc;refine lY [0,1,4,5,6,7,8,10,11,12,13,14] 7 18 (fun wq=>wq.cell? ⟨q,1,none⟩=some (.slice (some ⟨fg,fo,none⟩) N fc)/\wq.cell? ⟨q,2,none⟩=some (.slice (some ⟨gg,go',none⟩) N gc)/\wq.cell? ⟨fg,fo+i,none⟩=some (.slice Ny (Y (.f i)).length Nz)/\wq.cell? ⟨gg,go'+i,none⟩=some (.slice NA (Y (.g i)).length NC)) (by kernel_rfl) (by kernel_rfl) (by rw[hWd];exact S0) ?_;rw[hWd];clear hWd S0;have j0:(0:Int)<=(i:Int):=Int.natCast_nonneg _;have j1:(i:Int)<(N:Int):=by omega
   iterate 12
    refine aO.Ac (v:= ?_) rfl (by rfl) ?_ ?_;rotate_left
    ·intro w' hSw
     obtain⟨z0,z1,z2,z3⟩:=hSw
     go_simp
     try with_reducible rfl
    simp only[Act.put,List.setIfInBounds_toArray,List.set_cons_zero,List.set_cons_succ]
   rw[aO];refine ax.one (i:=2) (by kernel_rfl) ⟨_,rfl,fun K hK=> ?_⟩
   go_simp
   refine hK.out _ _ (fun _=>S1) ?_;clear hK ND;refine ax.one (i:=3) (by kernel_rfl) ⟨_,rfl,fun K hK=> ?_⟩
   go_simp
   refine n1.mono ?_;rintro e w4 ⟨rfl,h4⟩;obtain rfl:Wb=w4:=h4.symm;dsimp only;refine hK.out _ _ (fun _=>S1) ?_;clear hK n1;refine ax.one (i:=9) (by kernel_rfl) ⟨_,rfl,fun K hK=> ?_⟩
   go_simp
   refine n2.mono ?_;rintro e w4 ⟨rfl,h4⟩;obtain rfl:Wb=w4:=h4.symm;dsimp only;refine hK.out _ _ (fun _=>S1) ?_;clear hK n2;refine ax.one (i:=15) (by kernel_rfl) ⟨_,rfl,fun K hK=> ?_⟩
   go_simp
   refine n3.mono ?_;rintro e w4 ⟨rfl,h4⟩;obtain rfl:Wb=w4:=h4.symm;dsimp only;refine hK.out _ _ (fun _=>S1) ?_;clear hK n3;refine ax.one (i:=16) (by kernel_rfl) ⟨_,rfl,fun K hK=> ?_⟩
   go_simp
   refine hK.out _ _ (fun _=>S2) ?_;clear hK hWc;refine ax.one (i:=17) (by kernel_rfl) ⟨_,rfl,fun K hK=> ?_⟩;rw[if_pos (by rfl)]
   refine wp_append_lies _ (.tmp 24) (.tmp 40) _ rfl W3.heap.size 3 i5 _ 1 8 Tryz.underlying59 hi5 oL oM qQ rfl (by omega) (.slice la (i*3) lc) (i*3) ((oK Y i).map (Value.int .i64)) rfl NE
    ⟨Wb.heap.size,0,none⟩ 3 3 [.int .i64 (k1:Int),.int .i64 (k2:Int),.int .i64 (k3:Int)] rfl rfl hnw (by simp[Value.oneCell']) (by omega) m1 m2 hbc _ rfl ?_
   intro g9 sS w9 nJ jR wD yE;have H9:Hid (w9.ownsRow W3.heap.size 3 1 (.slice (some ⟨g9,0,none⟩) (i*3+3) sS) (i*3+3) ((oK Y i).map (Value.int .i64)++[.int .i64 (k1:Int),.int .i64 (k2:Int),.int .i64 (k3:Int)])/\Below W3.heap.size W3 w9):=⟨nJ,HC.out.1.grown jR hbc fun k hk=>(NE.lt k hk).1⟩;have hlow:∀b o,b<W3.heap.size->w9.cell? ⟨b,o,none⟩=wr.cell? ⟨b,o,none⟩:=fun b o hb=>(World.cell?_of_block (H9.out.2.block b hb)).trans (World.cell?_of_block (HO.out.2.block b hb)).symm;obtain⟨⟨y0,y1,y2,y3⟩,-,-⟩:=fM.out wr (Below.refl _ _);refine hK.out _ _ (fun _=>⟨(hlow _ _ HR.out.1).trans y0,(hlow _ _ HR.out.1).trans y1,(hlow _ _ HR.out.2.1).trans y2,(hlow _ _ HR.out.2.2).trans y3⟩) ?_;clear hK hlow y0 y1 y2 y3 nJ jR wD yE NE hbc hnw hi5 oL oM qQ m1 m2 S1 S2;simp only[Act.put,List.setIfInBounds_toArray,List.set_cons_zero,List.set_cons_succ];refine ax.last (i:=18) (by kernel_rfl) ⟨_,rfl,fun K hK=> ?_⟩
   go_simp
   refine hK.out _ _ (fun h=>absurd h (by omega)) (NoPanic.normal ?_);clear hK
   go_wp2_with fail
   go_roundw
   case rel=>
    refine⟨i+1,_,rfl,by go_num,by omega,H9.out.2,?_⟩;have:=H9.out.1;rw[Ff,HM.out,List.map_append,show (i+1)*3=i*3+3 by omega];exact this
   case measure=>simp[intOf];omega
  ·have d1:decide ((i:Int)<(N:Int))=false:=decide_eq_false (by omega)
   obtain rfl:i=N:=by omega
   obtain⟨-,hbw,-⟩:=HS.out wr hB;have dg:=Cm (HE.out.1.below hbw (by have:=HE.out;omega)) (by have:=hbw.size;have:=HE.out;omega) (OD hO) (by rw[Nv];omega) (Nw HY.out.1 HE.out.2.2.2.1 i (Nat.le_refl _));have HO:Hid (yt p (jh (oK Y i))/\Below w.heap.size w wr):=⟨⟨Y,by rw[HN.out];exact HY.out.1,HY.out.2,by rw[HN.out]⟩,hbw⟩;clear hO hB hbw
   go_wp2_with
    (go_at_call 29;refine dg.mono ?_;rintro e w4 ⟨rfl,h4⟩
     have H4:Hid (Below w.heap.size w w4):=HO.out.2.trans (h4.mono HO.out.2.size)
     clear dg h4)
   go_ret;exact⟨_,HO.out.1,rfl,H4.out⟩
end
def iL(p:bQ)(X:List UInt8->Prop)(p':bQ)(o:List UInt8):Prop:=p'=p/\if p.N=0 then o=[110,111,110,101] else X o
def iM(p:bQ)(l:List UInt8)(p':bQ)(o:List UInt8):Prop:=
 if Lib.hasPrefix l [61,32]=true then p'={ p with tx:=p.tx++(Lib.trimPrefix l [61,32]++[10]) }/\o=dI [111,107] [((p.tx++(Lib.trimPrefix l [61,32]++[10])).length:Int)]
 else if l=[102,114,101,115,104] then p'={ p with tx:=[] }/\o=[111,107]
 else if l=[116,97,107,101] then p'=uM p/\o=wI p
 else if l=[115,101,116,115] then iL p (yt p) p' o
 else if l=[115,104,111,114,116] then iL p (fun o=> ∃O,nN p.N p.R O/\o=jh O) p' o
 else if l=[116,97,98,108,101] then iL p (vU p) p' o
 else if l=[115,104,111,119] then iL p (fun o=>o=jh [((oP p.T p.N p.R).length:Int)]) p' o
 else match kY l with
  |none=>p'=p/\o=[63]
  |some (u,A)=>
   if u=[104,97,115] then iL p (nE p A) p' o
   else if u=[112,97,114,115,101] then iL p (pV p A) p' o
   else if u=[115,116,101,112]/\A.length=4 then (if p.N=0 then p'=p/\o=[110,111,110,101] else p'=kV p ⟨A.getD 0 0,A.getD 1 0,A.getD 2 0,A.getD 3 0⟩/\o=lW p ⟨A.getD 0 0,A.getD 1 0,A.getD 2 0,A.getD 3 0⟩)
   else p'=p/\o=[63]
def fP(w:World)(v:Value)(pb B:Nat)(rv:Value)(p:bQ)(Q:bQ->List UInt8->Prop):Prop:=∃dn bound caps args,v= .func (.func dn) bound caps/\bound++caps=args/\(∀args w,(callFunc dn args).run Tryz.prog w= .ok (.enter dn args) w)/\
 Calls Tryz.prog dn args w fun e w'=> ∃o p' B' rv',Q p' o/\e= .returned (.string ⟨o.toArray⟩)/\aZ w' pb B' rv' p'/\But pb w w'/\Bh w B rv p B' rv' p'
theorem fP.mono{w:World}{v rv:Value}{pb B:Nat}{p:bQ}{Q Q':bQ->List UInt8->Prop}(h:fP w v pb B rv p Q)(hQ:∀p o,Q p o->Q' p o):fP w v pb B rv p Q':=by
 obtain⟨dn,bound,caps,args,h1,h2,h3,h4⟩:=h;exact⟨dn,bound,caps,args,h1,h2,h3,h4.mono fun _ _ ⟨o,p',B',rv',k1,k2⟩=>⟨o,p',B',rv',hQ _ _ k1,k2⟩⟩
section
variable{w w':World}{pb B G:Nat}{rv:Value}{p:bQ}
theorem afj{dn:Nat}{X:List UInt8->Prop}(h:aZ w pb B rv p)(hd:∀args w,(callFunc dn args).run Tryz.prog w= .ok (.enter dn args) w)(hc:Calls Tryz.prog dn #[.pointer (some ⟨pb,0,none⟩)] w fun e w'=> ∃o,X o/\e= .returned (.string ⟨o.toArray⟩)/\Below w.heap.size w w'):
 fP w (.func (.func dn) #[.pointer (some ⟨pb,0,none⟩)] #[]) pb B rv p fun p' o=>p'=p/\X o:=
 ⟨dn,_,_,_,rfl,rfl,hd,hc.mono fun _ _ ⟨o,h1,h2,h3⟩=>⟨o,p,B,rv,⟨rfl,h1⟩,h2,h.later h3,But.of pb h3,.inl ⟨rfl,rfl,rfl⟩⟩⟩
theorem Jl(h:aZ w pb B rv p):fP w (.func (.func 26) #[] #[]) pb B rv p fun p' o=>p'=p/\o=[110,111,110,101]:=by
 refine⟨_,_,_,_,rfl,rfl,fun args w=>by simp[callFunc,Tryz.func26,Tryz.f26 ],?_⟩
 go_enter Tryz.func26,Tryz.ntmps26
 go_wp2_with fail
 go_ret;exact⟨_,p,B,rv,⟨rfl,rfl⟩,rfl,h,But.refl _ _,.inl ⟨rfl,rfl,rfl⟩⟩
theorem NG(h:aZ w pb B rv p):fP w (.func (.func 41) #[] #[]) pb B rv p fun p' o=>p'=p/\o=[63]:=by
 refine⟨_,_,_,_,rfl,rfl,fun args w=>by simp[callFunc,Tryz.func41,Tryz.f41 ],?_⟩
 go_enter Tryz.func41,Tryz.ntmps41
 go_wp2_with fail
 go_ret;exact⟨_,p,B,rv,⟨rfl,rfl⟩,rfl,h,But.refl _ _,.inl ⟨rfl,rfl,rfl⟩⟩
theorem Jm{f:Fn}{bs cs:Array Value}(h:aZ w pb B rv p)(hN:p.N=0):Calls Tryz.prog 15 #[.pointer (some ⟨pb,0,none⟩),.func f bs cs] w fun e w'=>e= .returned (.func (.func 26) #[] #[])/\w'=w:=by
 obtain⟨-,c1,-,-⟩:=h.cells;rw[hN]at c1;clear h hN
 go_enter Tryz.func15,Tryz.ntmps15
 go_wp2_with fail
 go_ret;exact⟨rfl,rfl⟩
theorem Jo{f:Fn}{bs cs:Array Value}(h:aZ w pb B rv p)(hN:p.N≠0):Calls Tryz.prog 15 #[.pointer (some ⟨pb,0,none⟩),.func f bs cs] w fun e w'=>e= .returned (.func f bs cs)/\w'=w:=by
 obtain⟨-,c1,-,-⟩:=h.cells;have b1:((p.N:Int)==0)=false:=by simpa using hN
 clear h hN
 go_enter Tryz.func15,Tryz.ntmps15
 go_wp2_with fail
 go_ret;exact⟨rfl,rfl⟩
theorem afk{b2 b5:Nat}{bs:List UInt8}(h:aZ w pb B rv p)(hE:cB G w)(hG:G<=pb)(hl:p.tx.length+bs.length<=4611686018427387904)(h2:w.heap[b2]?=some (.cells #[.pointer (some ⟨pb,0,none⟩)] 41 (0,0)))(h5:w.heap[b5]?=some (.cells #[.string ⟨bs.toArray⟩] 9 (0,0))):
 fP w (.func (.func 11) #[] #[.pointer (some ⟨b2,0,none⟩),.pointer (some ⟨b5,0,none⟩)]) pb B rv p fun p' o=>p'={ p with tx:=p.tx++(bs++[10]) }/\o=dI [111,107] [((p.tx++(bs++[10])).length:Int)]:=by
 refine⟨_,_,_,_,rfl,rfl,fun args w=>by simp[callFunc,Tryz.func11,Tryz.f11 ],?_⟩;have pt:=XM h hE hG hl;obtain⟨o,ho⟩:∃o,dI [111,107] [((p.tx++(bs++[10])).length:Int)]=o:=⟨_,rfl⟩;rw[ho]at pt;have HO:Hid (o=dI [111,107] [((p.tx++(bs++[10])).length:Int)]):=ho.symm;have c2:=ai (i:=0) h2 rfl;have c5:=ai (i:=0) h5 rfl;clear h hE h2 h5 ho
 go_enter Tryz.func11,Tryz.ntmps11
 go_wp2_with
  (go_at_call 12;refine pt.mono ?_;rintro e w3 ⟨rfl,h3,h4⟩
   have H3:Hid (aZ w3 pb B rv { p with tx:=p.tx++(bs++[10]) }/\But pb w w3):=⟨h3,h4⟩
   clear pt h3 h4)
 go_ret;exact⟨o,_,B,rv,⟨rfl,HO.out⟩,rfl,H3.out.1,H3.out.2,.inl ⟨rfl,rfl,rfl⟩⟩
theorem afl{b2 b6:Nat}{ta:Option Addr}{tc:Nat}{tok:List Int}(h:aZ w pb B rv p)(hE:cB G w)(hG:G<=pb)(hm:aD p.T p.N p.R=true)(ht:aP w w.heap.size (.slice ta tok.length tc) tok)(h2:w.heap[b2]?=some (.cells #[.pointer (some ⟨pb,0,none⟩)] 41 (0,0)))(h6:w.heap[b6]?=some (.cells #[.slice ta tok.length tc] 59 (0,0))):
 fP w (.func (.func 35) #[] #[.pointer (some ⟨b2,0,none⟩),.pointer (some ⟨b6,0,none⟩)]) pb B rv p fun p' o=>p'=p/\nE p tok o:=by
 refine⟨_,_,_,_,rfl,rfl,fun args w=>by simp[callFunc,Tryz.func35,Tryz.f35 ],?_⟩;have pt:=adA h hE hG hm ht;have c2:=ai (i:=0) h2 rfl;have c6:=ai (i:=0) h6 rfl;have HP:Hid (aZ w pb B rv p):=h;clear h hE h2 h6 ht hm
 go_enter Tryz.func35,Tryz.ntmps35
 go_wp2_with
  (go_at_call 36;refine pt.mono ?_;rintro e w3 ⟨o,ho,rfl,h3⟩
   have H3:Hid (nE p tok o/\Below w.heap.size w w3):=⟨ho,h3⟩
   clear pt h3 ho)
 go_ret;exact⟨o,p,B,rv,⟨rfl,H3.out.1⟩,rfl,HP.out.later H3.out.2,But.of pb H3.out.2,.inl ⟨rfl,rfl,rfl⟩⟩
theorem afm{b2 b6:Nat}{ta:Option Addr}{tc:Nat}{tok:List Int}(h:aZ w pb B rv p)(hE:cB G w)(hG:G<=pb)(hm:aD p.T p.N p.R=true)(ht:aP w w.heap.size (.slice ta tok.length tc) tok)(h2:w.heap[b2]?=some (.cells #[.pointer (some ⟨pb,0,none⟩)] 41 (0,0)))(h6:w.heap[b6]?=some (.cells #[.slice ta tok.length tc] 59 (0,0))):
 fP w (.func (.func 37) #[] #[.pointer (some ⟨b2,0,none⟩),.pointer (some ⟨b6,0,none⟩)]) pb B rv p fun p' o=>p'=p/\pV p tok o:=by
 refine⟨_,_,_,_,rfl,rfl,fun args w=>by simp[callFunc,Tryz.func37,Tryz.f37 ],?_⟩;have pt:=adB h hE hG hm ht;have c2:=ai (i:=0) h2 rfl;have c6:=ai (i:=0) h6 rfl;have HP:Hid (aZ w pb B rv p):=h;clear h hE h2 h6 ht hm
 go_enter Tryz.func37,Tryz.ntmps37
 go_wp2_with
  (go_at_call 38;refine pt.mono ?_;rintro e w3 ⟨o,ho,rfl,h3⟩
   have H3:Hid (pV p tok o/\Below w.heap.size w w3):=⟨ho,h3⟩
   clear pt h3 ho)
 go_ret;exact⟨o,p,B,rv,⟨rfl,H3.out.1⟩,rfl,HP.out.later H3.out.2,But.of pb H3.out.2,.inl ⟨rfl,rfl,rfl⟩⟩
theorem afn{b2 b8:Nat}{s:Stp}(h:aZ w pb B rv p)(hE:cB G w)(hG:G<=pb)(hm:aD p.T p.N p.R=true)(h2:w.heap[b2]?=some (.cells #[.pointer (some ⟨pb,0,none⟩)] 41 (0,0)))(h8:w.heap[b8]?=some (.cells #[.int .i64 s.op,.int .i64 s.a,.int .i64 s.b,.int .i64 s.c] 77 (0,0))):
 fP w (.func (.func 39) #[] #[.pointer (some ⟨b2,0,none⟩),.pointer (some ⟨b8,0,none⟩)]) pb B rv p fun p' o=>p'=kV p s/\o=lW p s:=by
 refine⟨_,_,_,_,rfl,rfl,fun args w=>by simp[callFunc,Tryz.func39,Tryz.f39 ],?_⟩;have pt:=afg (s:=s) h hE hG hm;obtain⟨o,ho⟩:∃o,lW p s=o:=⟨_,rfl⟩;rw[ho]at pt;have HO:Hid (o=lW p s):=ho.symm;have c2:=ai (i:=0) h2 rfl;have c8:=ai (i:=0) h8 rfl;have c9:=ai (i:=1) h8 rfl;have c10:=ai (i:=2) h8 rfl;have c11:=ai (i:=3) h8 rfl;clear h hE h2 h8 hm ho
 go_enter Tryz.func39,Tryz.ntmps39
 go_wp2_with
  (go_at_call 40;refine pt.mono ?_;rintro e w3 ⟨rfl,⟨B',rv',h3,h5⟩,h4⟩
   have H3:Hid (aZ w3 pb B' rv' (kV p s)/\But pb w w3/\Bh w B rv p B' rv' (kV p s)):=⟨h3,h4,h5⟩
   clear pt h3 h4 h5)
 go_ret;exact⟨o,_,B',rv',⟨rfl,HO.out⟩,rfl,H3.out⟩
end
def uG(p:bQ)(l:List UInt8)(p':bQ)(o:List UInt8):Prop:=match kY l with
 |none=>p'=p/\o=[63]
 |some (u,A)=>
  if u=[104,97,115] then iL p (nE p A) p' o
  else if u=[112,97,114,115,101] then iL p (pV p A) p' o
  else if u=[115,116,101,112]/\A.length=4 then (if p.N=0 then p'=p/\o=[110,111,110,101] else p'=kV p ⟨A.getD 0 0,A.getD 1 0,A.getD 2 0,A.getD 3 0⟩/\o=lW p ⟨A.getD 0 0,A.getD 1 0,A.getD 2 0,A.getD 3 0⟩)
  else p'=p/\o=[63]
section
variable{w w':World}{pb B G:Nat}{rv:Value}{p:bQ}{l:List UInt8}
theorem afo{la:Option Addr}{lc:Nat}{a0 a1 a2 a3:Int}(h:aP w w.heap.size (.slice la 4 lc) [a0,a1,a2,a3]):∃b o,la=some ⟨b,o,none⟩/\w.cell? ⟨b,o,none⟩=some (.int .i64 a0)/\w.cell? ⟨b,o+1,none⟩=some (.int .i64 a1)/\w.cell? ⟨b,o+2,none⟩=some (.int .i64 a2)/\w.cell? ⟨b,o+3,none⟩=some (.int .i64 a3):=by
 obtain⟨b,o,c,h1,_,h2⟩:=h.2 0 (by simp);obtain rfl:la=some ⟨b,o,none⟩:=by injection h1
 have key:∀j,j<4->w.cell? ⟨b,o+j,none⟩=some (.int .i64 ([a0,a1,a2,a3].getD j 0)):=fun j hj=>by
  obtain⟨b',o',c',k1,_,k2⟩:=h.2 j (by simpa using hj);injection k1 with k1;injection k1 with k1;injection k1 with k3 k4;subst k3 k4;exact k2
 exact⟨b,o,rfl,key 0 (by omega),key 1 (by omega),key 2 (by omega),key 3 (by omega)⟩
theorem afp(h:aZ w pb B rv p)(hE:cB G w)(hG:G<=pb)(hs:l.length<=281474976710656):Calls Tryz.prog 20 #[.pointer (some ⟨pb,0,none⟩),.string ⟨l.toArray⟩] w fun e w'=> ∃v,e= .returned v/\fP w' v pb B rv p (uG p l)/\Below w.heap.size w w':=by
 have hpb:=h.below;obtain⟨W1,hW1⟩:∃V,w.alloc (.cells #[.pointer (some ⟨pb,0,none⟩)] 41)=V:=⟨_,rfl⟩;have hB1:Below w.heap.size w W1:=by rw[<-hW1];exact(Below.refl _ _).alloc (Nat.le_refl _) _
 have hx1:=heap_alloc_new w (.cells #[.pointer (some ⟨pb,0,none⟩)] 41);rw[hW1]at hx1;obtain⟨b2,hb2⟩:∃y,w.heap.size=y:=⟨_,rfl⟩;rw[hb2]at hx1
 have HS:Hid (∀wq,Below W1.heap.size W1 wq->wq.heap[b2]?=some (.cells #[.pointer (some ⟨pb,0,none⟩)] 41 (0,0))/\aZ wq pb B rv p/\cB G wq/\Below w.heap.size w wq):=fun wq hq=>
  ⟨(hq.block _ (Array.getElem?_eq_some_iff.1 hx1).1).trans hx1,(h.later hB1).later hq,(hE.below hB1 (by omega)).below hq (by have:=hB1.size;omega),hB1.trans (hq.mono hB1.size)⟩
 have HW:Hid (w.alloc (.cells #[.pointer (some ⟨pb,0,none⟩)] 41)=W1/\w.heap.size=b2):=⟨hW1,hb2⟩;have HG:Hid (G<=pb/\(p.N=0\/aD p.T p.N p.R=true)):=⟨hG,h.good⟩;have rn:=XD (w:=W1) (s:=l) hs (hE.below hB1 (by omega)) (by have:=hB1.size;omega);clear h hE hB1 hx1 hW1 hb2 hs;cases hR:kY l with
 |none=>
  have lX:Calls Tryz.prog 34 #[.string ⟨l.toArray⟩] W1 fun e w'=>e= .returned (.tuple #[.string ⟨#[]⟩,.slice none 0 0,.bool false])/\Below W1.heap.size W1 w':=rn.mono fun e w' h=>by
   rcases h with⟨u,A,lv,h1,_⟩|⟨_,h2,h3⟩
   ·rw[hR]at h1;cases h1
   ·exact⟨h2,h3⟩
  have HQ:Hid (∀p' o,(p'=p/\o=[63])->uG p l p' o):=fun p' o hh=>by unfold uG;rw[hR];exact hh
  clear rn hR
  go_enter Tryz.func20,Tryz.ntmps20
  go_upto_region 1 with fail
  rw[HW.out.1];rw[HW.out.2]
  go_wp2_with
   (go_at_call 34;refine lX.mono ?_;rintro e w2 ⟨rfl,h2⟩
    have H2:Hid (Below W1.heap.size W1 (w2.alloc (.cells #[.slice none 0 0] 59))):=h2.alloc h2.size _
    clear lX h2)
  go_ret;obtain⟨-,k1,-,k3⟩:=HS.out _ H2.out;exact⟨_,rfl,(NG k1).mono HQ.out,k3⟩
 |some uA=>
  obtain⟨u,A⟩:=uA
  have lX:Calls Tryz.prog 34 #[.string ⟨l.toArray⟩] W1 fun e w'=> ∃la lc,e= .returned (.tuple #[.string ⟨u.toArray⟩,.slice la A.length lc,.bool true])/\w'.ownsRow W1.heap.size 3 1 (.slice la A.length lc) A.length (A.map (Value.int .i64))/\Below W1.heap.size W1 w':=rn.mono fun e w' h=>by
   rcases h with⟨u',A',lv,h1,h2,h3,h4⟩|⟨h1,_⟩
   ·rw[hR]at h1
    injection h1 with h1;injection h1 with h1 h1';subst h1 h1';obtain⟨la,lc,hlv⟩:=bK h3;subst hlv;exact⟨la,lc,h2,h3,h4⟩
   ·rw[hR]at h1;cases h1
  have hQ:∀p' o,uG p l p' o↔(if u=[104,97,115] then iL p (nE p A) p' o
   else if u=[112,97,114,115,101] then iL p (pV p A) p' o
   else if u=[115,116,101,112]/\A.length=4 then (if p.N=0 then p'=p/\o=[110,111,110,101] else p'=kV p ⟨A.getD 0 0,A.getD 1 0,A.getD 2 0,A.getD 3 0⟩/\o=lW p ⟨A.getD 0 0,A.getD 1 0,A.getD 2 0,A.getD 3 0⟩)
   else p'=p/\o=[63]):=fun p' o=>by unfold uG;rw[hR]
  clear rn hR
  have HF:Hid (∀w2 la lc,w2.ownsRow W1.heap.size 3 1 (.slice la A.length lc) A.length (A.map (Value.int .i64))->Below W1.heap.size W1 w2->∃W3 b6,w2.alloc (.cells #[.slice la A.length lc] 59)=W3/\w2.heap.size=b6/\Below W1.heap.size W1 W3/\W3.heap[b6]?=some (.cells #[.slice la A.length lc] 59 (0,0))/\aP W3 W3.heap.size (.slice la A.length lc) A):=fun w2 la lc ho hb=>
   ⟨_,_,rfl,rfl,hb.alloc hb.size _,heap_alloc_new w2 _,(OD ho).boxed _⟩
  by_cases hu1:u=[104,97,115]
  ·subst hu1
   have HQ:Hid (∀p' o,iL p (nE p A) p' o->uG p l p' o):=fun p' o hh=>(hQ p' o).2 (by rw[if_pos rfl];exact hh);clear hQ;by_cases hN:p.N=0
   ·skip
    go_enter Tryz.func20,Tryz.ntmps20
    go_upto_region 1 with fail
    rw[HW.out.1];rw[HW.out.2]
    go_upto_region 2 with
     (go_at_call 34;refine lX.mono ?_;rintro e w2 ⟨la,lc,rfl,h2,h3⟩
      clear lX)
    obtain⟨W3,b6,hW3,hb6,hB3,hx3,hL3⟩:=HF.out w2 la lc h2 h3;rw[hW3];rw[hb6];obtain⟨k0,k1,k2,k3⟩:=HS.out W3 hB3;have og:=Jm (f:= .func 35) (bs:= #[]) (cs:= #[.pointer (some ⟨b2,0,none⟩),.pointer (some ⟨b6,0,none⟩)]) k1 hN;have c2:=ai (i:=0) k0 rfl;have H3:Hid (aZ W3 pb B rv p/\Below w.heap.size w W3/\p.N=0):=⟨k1,k3,hN⟩;clear h2 h3 hW3 hb6 hB3 hx3 hL3 k0 k1 k2 k3 hN
    go_wp2_with
     (go_at_call 15;refine og.mono ?_;rintro e w4 ⟨rfl,h4⟩
      obtain rfl:W3=w4:=h4.symm
      clear og)
    go_ret;exact⟨_,rfl,(Jl H3.out.1).mono fun p' o hh=>HQ.out p' o ⟨hh.1,by rw[if_pos H3.out.2.2];exact hh.2⟩,H3.out.2.1⟩
   ·have hm:=HG.out.2.resolve_left hN
    go_enter Tryz.func20,Tryz.ntmps20
    go_upto_region 1 with fail
    rw[HW.out.1];rw[HW.out.2]
    go_upto_region 2 with
     (go_at_call 34;refine lX.mono ?_;rintro e w2 ⟨la,lc,rfl,h2,h3⟩
      clear lX)
    obtain⟨W3,b6,hW3,hb6,hB3,hx3,hL3⟩:=HF.out w2 la lc h2 h3;rw[hW3];rw[hb6];obtain⟨k0,k1,k2,k3⟩:=HS.out W3 hB3;have og:=Jo (f:= .func 35) (bs:= #[]) (cs:= #[.pointer (some ⟨b2,0,none⟩),.pointer (some ⟨b6,0,none⟩)]) k1 hN;have c2:=ai (i:=0) k0 rfl;have hd:=afl k1 k2 HG.out.1 hm hL3 k0 hx3;have H3:Hid (fP W3 (.func (.func 35) #[] #[.pointer (some ⟨b2,0,none⟩),.pointer (some ⟨b6,0,none⟩)]) pb B rv p (fun p' o=>p'=p/\nE p A o)/\Below w.heap.size w W3/\p.N≠0):=⟨hd,k3,hN⟩;clear h2 h3 hW3 hb6 hB3 hx3 hL3 k0 k1 k2 k3 hN hd hm
    go_wp2_with
     (go_at_call 15;refine og.mono ?_;rintro e w4 ⟨rfl,h4⟩
      obtain rfl:W3=w4:=h4.symm
      clear og)
    go_ret;exact⟨_,rfl,H3.out.1.mono fun p' o hh=>HQ.out p' o ⟨hh.1,by rw[if_neg H3.out.2.2];exact hh.2⟩,H3.out.2.1⟩
  ·have q1:(u==[104,97,115])=false:=beq_eq_false_iff_ne.2 hu1
   by_cases hu2:u=[112,97,114,115,101]
   ·subst hu2
    have HQ:Hid (∀p' o,iL p (pV p A) p' o->uG p l p' o):=fun p' o hh=>(hQ p' o).2 (by rw[if_neg hu1,if_pos rfl];exact hh);clear hQ hu1;by_cases hN:p.N=0
    ·skip
     go_enter Tryz.func20,Tryz.ntmps20
     go_upto_region 1 with fail
     rw[HW.out.1];rw[HW.out.2]
     go_upto_region 2 with
      (go_at_call 34;refine lX.mono ?_;rintro e w2 ⟨la,lc,rfl,h2,h3⟩
       clear lX)
     obtain⟨W3,b6,hW3,hb6,hB3,hx3,hL3⟩:=HF.out w2 la lc h2 h3;rw[hW3];rw[hb6];obtain⟨k0,k1,k2,k3⟩:=HS.out W3 hB3;have og:=Jm (f:= .func 37) (bs:= #[]) (cs:= #[.pointer (some ⟨b2,0,none⟩),.pointer (some ⟨b6,0,none⟩)]) k1 hN;have c2:=ai (i:=0) k0 rfl;have H3:Hid (aZ W3 pb B rv p/\Below w.heap.size w W3/\p.N=0):=⟨k1,k3,hN⟩;clear h2 h3 hW3 hb6 hB3 hx3 hL3 k0 k1 k2 k3 hN
     go_wp2_with
      (go_at_call 15;refine og.mono ?_;rintro e w4 ⟨rfl,h4⟩
       obtain rfl:W3=w4:=h4.symm
       clear og)
     go_ret;exact⟨_,rfl,(Jl H3.out.1).mono fun p' o hh=>HQ.out p' o ⟨hh.1,by rw[if_pos H3.out.2.2];exact hh.2⟩,H3.out.2.1⟩
    ·have hm:=HG.out.2.resolve_left hN
     go_enter Tryz.func20,Tryz.ntmps20
     go_upto_region 1 with fail
     rw[HW.out.1];rw[HW.out.2]
     go_upto_region 2 with
      (go_at_call 34;refine lX.mono ?_;rintro e w2 ⟨la,lc,rfl,h2,h3⟩
       clear lX)
     obtain⟨W3,b6,hW3,hb6,hB3,hx3,hL3⟩:=HF.out w2 la lc h2 h3;rw[hW3];rw[hb6];obtain⟨k0,k1,k2,k3⟩:=HS.out W3 hB3;have og:=Jo (f:= .func 37) (bs:= #[]) (cs:= #[.pointer (some ⟨b2,0,none⟩),.pointer (some ⟨b6,0,none⟩)]) k1 hN;have c2:=ai (i:=0) k0 rfl;have hd:=afm k1 k2 HG.out.1 hm hL3 k0 hx3;have H3:Hid (fP W3 (.func (.func 37) #[] #[.pointer (some ⟨b2,0,none⟩),.pointer (some ⟨b6,0,none⟩)]) pb B rv p (fun p' o=>p'=p/\pV p A o)/\Below w.heap.size w W3/\p.N≠0):=⟨hd,k3,hN⟩;clear h2 h3 hW3 hb6 hB3 hx3 hL3 k0 k1 k2 k3 hN hd hm
     go_wp2_with
      (go_at_call 15;refine og.mono ?_;rintro e w4 ⟨rfl,h4⟩
       obtain rfl:W3=w4:=h4.symm
       clear og)
     go_ret;exact⟨_,rfl,H3.out.1.mono fun p' o hh=>HQ.out p' o ⟨hh.1,by rw[if_neg H3.out.2.2];exact hh.2⟩,H3.out.2.1⟩
   ·have q2:(u==[112,97,114,115,101])=false:=beq_eq_false_iff_ne.2 hu2
    by_cases hu3:u=[115,116,101,112]
    ·subst hu3
     by_cases hA:A.length=4
     ·obtain⟨a0,a1,a2,a3,rfl⟩:∃a0 a1 a2 a3,A=[a0,a1,a2,a3]:=by
       match A,hA with
       | [a0,a1,a2,a3],_=>exact⟨a0,a1,a2,a3,rfl⟩
      have HQ:Hid (∀p' o,(if p.N=0 then p'=p/\o=[110,111,110,101] else p'=kV p ⟨a0,a1,a2,a3⟩/\o=lW p ⟨a0,a1,a2,a3⟩)->uG p l p' o):=fun p' o hh=>(hQ p' o).2 (by rw[if_neg hu1,if_neg hu2,if_pos ⟨rfl,rfl⟩];exact hh);clear hQ hu1 hu2 hA
      go_enter Tryz.func20,Tryz.ntmps20
      go_upto_region 1 with fail
      rw[HW.out.1];rw[HW.out.2]
      go_upto_region 2 with
       (go_at_call 34;refine lX.mono ?_;rintro e w2 ⟨la,lc,rfl,h2,h3⟩
        clear lX)
      obtain⟨W3,b6,hW3,hb6,hB3,hx3,hL3⟩:=HF.out w2 la lc h2 h3;have WG:w2.alloc (.cells #[.slice la 4 lc] 59)=W3:=hW3;rw[WG];rw[hb6];obtain⟨b,o,rfl,e0,e1,e2,e3⟩:=afo hL3;have c6:W3.cell? ⟨b6,0,none⟩=some (.slice (some ⟨b,o,none⟩) 4 lc):=ai (i:=0) hx3 rfl;obtain⟨k0,k1,k2,k3⟩:=HS.out W3 hB3;have c2:=ai (i:=0) k0 rfl;have H3:Hid (Below W1.heap.size W1 W3):=hB3;clear h2 h3 hW3 WG hb6 hB3 hx3 hL3 k0 k1 k2 k3
      go_wp2_with fail
      obtain⟨Wd,hWd⟩:∃V,W3.drew=V:=⟨_,rfl⟩;have hBd:Below W3.heap.size W3 Wd:=by rw[<-hWd];exact(Below.refl _ _).drew
      have fM:Hid (∀wq,Below W3.heap.size W3 wq->wq.cell? ⟨b6,0,none⟩=some (.slice (some ⟨b,o,none⟩) 4 lc)/\wq.cell? ⟨b,o,none⟩=some (.int .i64 a0)/\wq.cell? ⟨b,o+1,none⟩=some (.int .i64 a1)/\wq.cell? ⟨b,o+2,none⟩=some (.int .i64 a2)/\wq.cell? ⟨b,o+3,none⟩=some (.int .i64 a3)):=fun wq hq=>
       ⟨(hq.cell (World.block_lt_of_cell? _ _ c6)).trans c6,(hq.cell (World.block_lt_of_cell? _ _ e0)).trans e0,(hq.cell (World.block_lt_of_cell? _ _ e1)).trans e1,(hq.cell (World.block_lt_of_cell? _ _ e2)).trans e2,(hq.cell (World.block_lt_of_cell? _ _ e3)).trans e3⟩
      have dH:Hid (Below W3.heap.size W3 Wd):=hBd;clear c6 e0 e1 e2 e3 hBd;refine lY [0,1,2,3,4,5,6,7,8,9,10,11,12] 2 14 (fun wq=>wq.cell? ⟨b6,0,none⟩=some (.slice (some ⟨b,o,none⟩) 4 lc)/\wq.cell? ⟨b,o,none⟩=some (.int .i64 a0)/\wq.cell? ⟨b,o+1,none⟩=some (.int .i64 a1)/\wq.cell? ⟨b,o+2,none⟩=some (.int .i64 a2)/\wq.cell? ⟨b,o+3,none⟩=some (.int .i64 a3)) (by kernel_rfl) (by kernel_rfl) (by rw[hWd];exact fM.out Wd dH.out) ?_;rw[hWd];clear hWd
      iterate 13
       refine aO.Ac (v:= ?_) rfl (by rfl) ?_ ?_;rotate_left
       ·intro w' hSw
        obtain⟨z0,z1,z2,z3,z4⟩:=hSw
        go_simp
        try with_reducible rfl
       simp only[Act.put,List.setIfInBounds_toArray,List.set_cons_zero,List.set_cons_succ]
      rw[aO];refine ax.one (i:=13) (by kernel_rfl) ⟨_,rfl,fun K hK=> ?_⟩
      go_simp
      refine hK.out _ _ (fun _=>fM.out (Wd.alloc (.cells #[.int .i64 0,.int .i64 0,.int .i64 0,.int .i64 0] 77)) (dH.out.alloc dH.out.size _)) ?_;clear hK;refine ax.last (i:=14) (by kernel_rfl) ⟨_,rfl,fun K hK=> ?_⟩
      go_simp
      refine hK.out _ _ (fun h=>absurd h (by omega)) (NoPanic.normal ?_);clear hK;obtain⟨W5,jG⟩:∃V,Wd.alloc (.cells #[.int .i64 a0,.int .i64 a1,.int .i64 a2,.int .i64 a3] 77)=V:=⟨_,rfl⟩;have hx5:=heap_alloc_new Wd (.cells #[.int .i64 a0,.int .i64 a1,.int .i64 a2,.int .i64 a3] 77);rw[jG]at hx5;have hb5:Below W3.heap.size W3 W5:=by rw[<-jG];exact dH.out.alloc dH.out.size _
      obtain⟨b8,sQ⟩:∃y,Wd.heap.size=y:=⟨_,rfl⟩;rw[sQ]at hx5;rw[jG];rw[sQ];obtain⟨k0,k1,k2,k3⟩:=HS.out W5 (H3.out.trans (hb5.mono H3.out.size));clear c2;have c2:=ai (i:=0) k0 rfl;by_cases hN:p.N=0
      ·have og:=Jm (f:= .func 39) (bs:= #[]) (cs:= #[.pointer (some ⟨b2,0,none⟩),.pointer (some ⟨b8,0,none⟩)]) k1 hN
       have H5:Hid (aZ W5 pb B rv p/\Below w.heap.size w W5/\p.N=0):=⟨k1,k3,hN⟩;clear jG hx5 hb5 sQ k0 k1 k2 k3 hN
       go_wp2_with
        (go_at_call 15;refine og.mono ?_;rintro e w6 ⟨rfl,h6⟩
         obtain rfl:W5=w6:=h6.symm
         clear og)
       go_ret;exact⟨_,rfl,(Jl H5.out.1).mono fun p' o hh=>HQ.out p' o (by rw[if_pos H5.out.2.2];exact hh),H5.out.2.1⟩
      ·have og:=Jo (f:= .func 39) (bs:= #[]) (cs:= #[.pointer (some ⟨b2,0,none⟩),.pointer (some ⟨b8,0,none⟩)]) k1 hN
       have hd:=afn (s:=⟨a0,a1,a2,a3⟩) k1 k2 HG.out.1 (HG.out.2.resolve_left hN) k0 hx5;have H5:Hid (fP W5 (.func (.func 39) #[] #[.pointer (some ⟨b2,0,none⟩),.pointer (some ⟨b8,0,none⟩)]) pb B rv p (fun p' o=>p'=kV p ⟨a0,a1,a2,a3⟩/\o=lW p ⟨a0,a1,a2,a3⟩)/\Below w.heap.size w W5/\p.N≠0):=⟨hd,k3,hN⟩;clear jG hx5 hb5 sQ k0 k1 k2 k3 hN hd
       go_wp2_with
        (go_at_call 15;refine og.mono ?_;rintro e w6 ⟨rfl,h6⟩
         obtain rfl:W5=w6:=h6.symm
         clear og)
       go_ret;exact⟨_,rfl,H5.out.1.mono fun p' o hh=>HQ.out p' o (by rw[if_neg H5.out.2.2];exact hh),H5.out.2.1⟩
     ·have HQ:Hid (∀p' o,(p'=p/\o=[63])->uG p l p' o):=fun p' o hh=>(hQ p' o).2 (by rw[if_neg hu1,if_neg hu2,if_neg fun h=>hA h.2];exact hh)
      have q4:((A.length:Int)==4)=false:=by simpa using (by omega:¬(A.length:Int)=4)
      clear hQ hu1 hu2 hA
      go_enter Tryz.func20,Tryz.ntmps20
      go_upto_region 1 with fail
      rw[HW.out.1];rw[HW.out.2]
      go_upto_region 2 with
       (go_at_call 34;refine lX.mono ?_;rintro e w2 ⟨la,lc,rfl,h2,h3⟩
        clear lX)
      obtain⟨W3,b6,hW3,hb6,hB3,hx3,hL3⟩:=HF.out w2 la lc h2 h3;rw[hW3];rw[hb6];obtain⟨k0,k1,k2,k3⟩:=HS.out W3 hB3;have c6:=ai (i:=0) hx3 rfl;have H3:Hid (aZ W3 pb B rv p/\Below w.heap.size w W3):=⟨k1,k3⟩;clear h2 h3 hW3 hb6 hB3 hx3 hL3 k0 k1 k2 k3
      go_wp2_with fail
      go_ret;exact⟨_,rfl,(NG H3.out.1).mono HQ.out,H3.out.2⟩
    ·have HQ:Hid (∀p' o,(p'=p/\o=[63])->uG p l p' o):=fun p' o hh=>(hQ p' o).2 (by rw[if_neg hu1,if_neg hu2,if_neg fun h=>hu3 h.1];exact hh)
     have q3:(u==[115,116,101,112])=false:=beq_eq_false_iff_ne.2 hu3;clear hQ hu1 hu2 hu3
     go_enter Tryz.func20,Tryz.ntmps20
     go_upto_region 1 with fail
     rw[HW.out.1];rw[HW.out.2]
     go_upto_region 2 with
      (go_at_call 34;refine lX.mono ?_;rintro e w2 ⟨la,lc,rfl,h2,h3⟩
       clear lX)
     obtain⟨W3,b6,hW3,hb6,hB3,hx3,hL3⟩:=HF.out w2 la lc h2 h3;rw[hW3];rw[hb6];obtain⟨k0,k1,k2,k3⟩:=HS.out W3 hB3;have c6:=ai (i:=0) hx3 rfl;have H3:Hid (aZ W3 pb B rv p/\Below w.heap.size w W3):=⟨k1,k3⟩;clear h2 h3 hW3 hb6 hB3 hx3 hL3 k0 k1 k2 k3
     go_wp2_with fail
     go_ret;exact⟨_,rfl,(NG H3.out.1).mono HQ.out,H3.out.2⟩
end
end Go.Proofs.YtblkkhfdeaaidaaGreatDoor

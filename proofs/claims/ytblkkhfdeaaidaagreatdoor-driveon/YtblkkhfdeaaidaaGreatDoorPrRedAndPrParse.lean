import Derived.Test.YtblkkhfdeaaidaaGreatDoorLRUseAndPrCell
import Derived.Test.YtblkkhfdeaaidaaGreatDoorTxPaAndLfp
import Derived.Laws.AppendOwnNone
set_option maxHeartbeats 6400000
set_option maxRecDepth 100000
namespace Go.Proofs.YtblkkhfdeaaidaaGreatDoor
open Go.RowKit
theorem adg{la:Option Addr}{f n sl lc:Nat}(hs:sl=f+n):∃A,(∀w:World,Sem.run Tryz.prog (Instr.sliceAt 159 (.slice la sl lc) (some (.int .i64 f)) none none) w= .ok (.slice A n (lc-f)) w)/\(lc≠f->A=la.map (·.add (f*2))):=by
 have h0:(0:Int)<=(f:Int):=Int.natCast_nonneg _;have h1:(f:Int)<=(sl:Int):=by omega
 have h2:sl-f=n:=by omega
 refine⟨if lc=f then la else la.map (·.add (f*2)),fun w=> ?_,fun h=>by rw[if_neg h]⟩
 go_simp
 intro h;omega
theorem adh{g f sl lc:Nat}(hu:f<=lc)(w:World):Sem.run Tryz.prog (Instr.sliceAt 159 (.slice (some ⟨g,0,none⟩) sl lc) none (some (.int .i64 f)) none) w= .ok (.slice (some ⟨g,0,none⟩) f lc) w:=by
 have h0:(0:Int)<=(f:Int):=Int.natCast_nonneg _;have h1:(f:Int)<=(lc:Int):=by omega
 go_simp
def jA(m:Int)(PL:List Pl)(f i:Nat):List Int:=m::(((PL.drop f).take i).map fun x=>x.2.2).flatten
theorem adi{m:Int}{PL:List Pl}{f i:Nat}(h:f+i<PL.length):jA m PL f (i+1)=jA m PL f i++(PL.getD (f+i) eZ).2.2:=by
 unfold jA;have hi:i<(PL.drop f).length:=by rw[List.length_drop];omega
 rw[List.take_succ_eq_append_getElem hi,List.map_append,List.flatten_append];have e:(PL.drop f)[i]=PL.getD (f+i) eZ:=by simp[List.getD,h]
 rw[e];simp
theorem UK{m:Int}{PL:List Pl}{f i:Nat}{c:Nat}(h:((PL.map fun x=>x.2.2).map List.length).sum<=c):(jA m PL f i).length<=c+1:=by
 unfold jA;rw[List.length_cons,List.length_flatten]
 have e:((((PL.drop f).take i).map fun x=>x.2.2).map List.length).sum<=((PL.map fun x=>x.2.2).map List.length).sum:=by
  have h1:((PL.map fun x=>x.2.2).map List.length).sum=(((PL.take f).map fun x=>x.2.2).map List.length).sum+(((PL.drop f).map fun x=>x.2.2).map List.length).sum:=by
   rw[<-List.sum_append,<-List.map_append,<-List.map_append,List.take_append_drop]
  have h2:(((PL.drop f).map fun x=>x.2.2).map List.length).sum=((((PL.drop f).take i).map fun x=>x.2.2).map List.length).sum+((((PL.drop f).drop i).map fun x=>x.2.2).map List.length).sum:=by
   rw[<-List.sum_append,<-List.map_append,<-List.map_append,List.take_append_drop]
  omega
 omega
theorem adj{w0 w:World}{d:pR}{sv:Value}{PL:List Pl}{p q:Nat}{R:List Ru}{tok:List Int}{C:List (List Ce)}{G:List (List Int)}(h:aW w0 d sv PL p q w)(E:zm w0 d R tok C G){m kp rl Lf qs gg:Nat}(hm:m<R.length)(hL:(R.getD m (0,[])).1=(Lf:Int))(hrl:(R.getD m (0,[])).2.length=rl)(hPL:PL.length=kp+1+rl)(hl:PL.length<=10000)(hq:q<=10000)(hsum:((PL.map fun x=>x.2.2).map List.length).sum<=10000)
 (zo:(PL.getD kp eZ).1=qs) (UL:qs<G.length) (UM:Lf<(G.getD qs []).length) (hgg:(G.getD qs []).getD Lf 0=(gg:Int)):
 Calls Tryz.prog 121 #[.pointer (some ⟨d.ra,0,none⟩),.int .i64 m] w fun e w'=>e= .returned (.tuple #[])/\∃cu dv,aW w0 d cu (PL.take (kp+1)++[(gg,dv,(m:Int)::((PL.drop (kp+1)).map fun x=>x.2.2).flatten)]) p (q+1) w':=by
 obtain⟨g,cap,hsv,hg,hcap⟩:=h.form (by omega);obtain⟨sl,hsl⟩:∃n,PL.length=n:=⟨_,rfl⟩;rw[hsl]at hsv hcap hl;subst hsv;obtain⟨f,hf⟩:∃f,kp+1=f:=⟨_,rfl⟩;have UN:sl=f+rl:=by omega
 obtain⟨rb,ro,rc,qa,qc,aG,hrb,z1,z2,hqc,_⟩:=(E.rules.below h.since).2 m hm;obtain⟨ru,adk⟩:∃x,R.getD m (0,[])=x:=⟨_,rfl⟩;rw[hL]at z1;rw[hrl]at z2;rw[<-Nat.add_assoc]at z2;have c2:=(h.cell (i:=2) rfl).1;rw[aG]at c2;have v0:(0:Int)<=(m:Int):=Int.natCast_nonneg _;have v1:(m:Int)<(R.length:Int):=by omega
 have hfr:IntKind.i64.wrap ((sl:Int)-(rl:Int))=(f:Int):=by rw[IntWalk.i64_in _ (by omega)];omega
 have HM:Hid (aW w0 d (.slice (some ⟨g,0,none⟩) sl cap) PL p q w):=h;have HE:Hid (zm w0 d R tok C G):=E;have HRv:Hid (d.rv= .slice (some ⟨rb,ro,none⟩) R.length rc):=aG;have Bz:Hid (PL.length=sl):=hsl;have HF:Hid (kp+1=f):=hf;have UO:Hid (((PL.map fun x=>x.2.2).map List.length).sum<=10000):=hsum;have HQs:Hid ((PL.getD kp eZ).1=qs):=zo;have EA:Hid (qs<G.length/\Lf<(G.getD qs []).length/\(G.getD qs []).getD Lf 0=(gg:Int)):=⟨UL,UM,hgg⟩;have vS:Hid (sl=f+rl):=UN;have afR:rl<=10000:=by omega
 have c8:=(h.cell (i:=8) rfl).1;have hra:=h.lt.1;have hB0:w.heap.size<=w.heap.size:=Nat.le_refl _;obtain⟨pU,Mw⟩:∃x,d.ra=x:=⟨_,rfl⟩;have kS:Hid (d.ra=pU):=Mw;rw[Mw]at c2 c8 hra⊢;clear h E aG hsl hf hsum zo UL UM hgg UN adk hL hrl hPL Mw hm hrb hqc
 go_enter Tryz.func121,Tryz.ntmps121
 go_upto_region 1 with fail
 obtain⟨W1,hW1⟩:∃W,w.alloc (.cells #[.int .i64 Lf,.slice qa rl qc] 91)=W:=⟨_,rfl⟩;have hM1:=HM.out.alloc (.cells #[.int .i64 Lf,.slice qa rl qc] 91);have b0:W1.cell? ⟨w.heap.size,0,none⟩=some (.int .i64 Lf):=by rw[<-hW1];simp[go_sem]
 have b1:W1.cell? ⟨w.heap.size,1,none⟩=some (.slice qa rl qc):=by rw[<-hW1];simp[go_sem]
 rw[hW1]at hM1⊢;have Ii:=(hM1.cell (i:=8) rfl).1;rw[kS.out]at Ii;have pE:Hid (aW w0 d (.slice (some ⟨g,0,none⟩) sl cap) PL p q W1):=hM1;clear hW1 hM1 c2 c8 z1 z2 v0 v1
 go_big_quiet (fail)
 obtain⟨W2,hW2⟩:∃W,W1.drewN nq=W:=⟨_,rfl⟩;have hB2:Below W1.heap.size W1 W2:=by rw[<-hW2];exact below_drewN (Below.refl _ _) _
 rw[hW2];have iU:Hid (aW w0 d (.slice (some ⟨g,0,none⟩) sl cap) PL p q W2):=pE.out.below hB2;have e0:=(hB2.cell (World.block_lt_of_cell? _ _ b0)).trans b0;have UQ:Hid (W2.cell? ⟨w.heap.size,0,none⟩=some (.int .i64 Lf)):=e0
 have c8:(W2.alloc (.cells #[.int .i64 m] 3)).cell? ⟨pU,8,none⟩=some (.slice (some ⟨g,0,none⟩) sl cap):=by
  have:=((iU.out.alloc (.cells #[.int .i64 m] 3)).cell (i:=8) rfl).1;rw[kS.out]at this;exact this
 obtain⟨A,hA,hA'⟩:=adg (la:=some ⟨g,0,none⟩) (lc:=cap) vS.out;have zq:Hid (cap≠f->A=(some (⟨g,0,none⟩:Addr)).map (·.add (f*2))):=hA'
 have xJ:Hid ((W2.alloc (.cells #[.int .i64 m] 3)).ownsRow W2.heap.size 3 1 (.slice (some ⟨W2.heap.size,0,none⟩) 1 1) 1 [.int .i64 m]):=by
  have:=World.ownsRow_lit (base:=W2.heap.size) (e:=3) (size:=1) W2 #[.int .i64 m] 1 (Nat.le_refl _) (by unfold maxLen;omega) rfl;exact this
 clear hW2 hB2 b0 b1 Ii hA' e0 pE
 go_wp2_with fail
 clear c8 hA hfr
 go_loopw [6,36] (fun s6 s36 wr=> ∃(i gd cd:Nat),s6= .slice (some ⟨gd,0,none⟩) (jA m PL f i).length cd/\s36= .int .i64 i/\i<=rl/\wr.ownsRow W2.heap.size 3 1 (.slice (some ⟨gd,0,none⟩) (jA m PL f i).length cd) (jA m PL f i).length ((jA m PL f i).map (Value.int .i64))/\Below W2.heap.size W2 wr) (fun _ s _=>rl-(intOf s).toNat)
 case atStart=>exact⟨0,W2.heap.size,1,rfl,rfl,Nat.zero_le _,xJ.out,(Below.refl _ _).alloc (Nat.le_refl _) _⟩
 case round=>
  clear xJ;obtain⟨i,gd,cd,rfl,rfl,hi,hown,hB⟩:=hrel;have HB:Hid (Below W2.heap.size W2 wr):=hB;obtain⟨dl,hdl⟩:∃n,(jA m PL f i).length=n:=⟨_,rfl⟩;rw[hdl]at hown⊢;have afS:dl<=10001:=by rw[<-hdl];exact UK UO.out
  have xU:Hid ((jA m PL f i).length=dl):=hdl;have qI:Hid (wr.ownsRow W2.heap.size 3 1 (.slice (some ⟨gd,0,none⟩) dl cd) dl ((jA m PL f i).map (Value.int .i64))):=hown;have xV:=iU.out.below hB;have DU:Hid (aW w0 d (.slice (some ⟨g,0,none⟩) sl cap) PL p q wr):=xV;clear hB hown hdl;by_cases hlt:i<rl
  ·have hcf:cap≠f:=by have:=vS.out;omega
   have yT:=zq.out hcf;simp only[Option.map_some,Addr.add_lit,Nat.zero_add]at yT;subst yT;have hfi:f+i<PL.length:=by rw[Bz.out,vS.out];omega
   obtain⟨c0,c1⟩:=xV.place (by rw[Bz.out]) (i:=f+i) hfi;have hdv:=xV.Bw (i:=f+i) hfi;have hsu:=adi (m:=(m:Int)) hfi;have hle:=UK (m:=(m:Int)) (f:=f) (i:=i+1) UO.out;obtain⟨⟨s,dv,D⟩,hpl⟩:∃x,PL.getD (f+i) eZ=x:=⟨_,rfl⟩;rw[hpl]at c0 c1 hdv hsu;simp only at c0 c1 hdv hsu;rw[Nat.add_mul]at c0 c1;have BA:Hid (jA m PL f (i+1)=jA m PL f i++D):=hsu;have hDl:dl+D.length<=10001:=by rw[hsu,List.length_append,xU.out]at hle;exact hle
   have i0:(0:Int)<=(i:Int):=Int.natCast_nonneg _;have i1:(i:Int)<(rl:Int):=by omega
   obtain⟨rC,hi0,hz0,hz1,hz2⟩:=info_parts Tryz.infoInt;clear xV hpl hsu hle;rcases hdv with⟨rfl,rfl⟩|⟨hD0,b,c,rfl,_,hbl,_,hcl⟩
   ·have dh:=qI.out.alloc (.cells #[.int .i64 s,.slice none 0 0] 158)
    have fA:Hid (Below W2.heap.size W2 (wr.alloc (.cells #[.int .i64 s,.slice none 0 0] 158))):=HB.out.alloc HB.out.size _
    go_wp2_with
     (at_builtin
      refine wpList_append_own_none rfl _ _ _ rfl W2.heap.size 3 rC 1 Tryz.underlying59 hi0 (.slice (some ⟨gd,0,none⟩) dl cd) dl ((jA m PL f i).map (Value.int .i64)) rfl dh rfl ?_)
    go_roundw
    case rel=>
     have e:=BA.out;rw[List.append_nil]at e;exact⟨i+1,gd,cd,by rw[e,xU.out],by go_num,by omega,by rw[e,xU.out];exact dh,fA.out⟩
    case measure=>simp[intOf];omega
   ·have dh:=qI.out.alloc (.cells #[.int .i64 s,.slice (some ⟨b,0,none⟩) D.length c] 158)
    have ak:Below W2.heap.size W2 (wr.alloc (.cells #[.int .i64 s,.slice (some ⟨b,0,none⟩) D.length c] 158)):=HB.out.alloc HB.out.size _;have fA:Hid (Below W2.heap.size W2 (wr.alloc (.cells #[.int .i64 s,.slice (some ⟨b,0,none⟩) D.length c] 158))):=ak;have hsz5:=ak.size
    have hnw:∀j u,(D.map (Value.int .i64))[j]?=some u->(wr.alloc (.cells #[.int .i64 s,.slice (some ⟨b,0,none⟩) D.length c] 158)).cell? ((⟨b,0,none⟩:Addr).add j)=some u:=fun j u hj=>by
     have hjl:=(List.getElem?_eq_some_iff.1 hj).1;simp only[List.length_map]at hjl;rw[Addr.add_lit,Nat.zero_add,World.cell?_alloc_past _ _ _ hbl,hcl j hjl,<-hj];simp[List.getD,hjl]
    have hone:∀u∈D.map (Value.int .i64),u.oneCell'=true:=fun u hu=>by
     obtain⟨n,_,rfl⟩:=List.mem_map.1 hu;rfl
    have n1:dl+D.length<=maxLen:=by unfold maxLen;omega
    have n2:(dl+D.length)*8<=140737488355328:=by omega
    have nl:(D.map (Value.int .i64)).length=D.length*1:=by simp
    clear ak hcl
    go_wp2_with
     (at_builtin
      refine wpList_append_lies _ rfl _ _ _ rfl W2.heap.size 3 rC _ 1 8 Tryz.underlying59 hi0 hz0 hz1 hz2 rfl (by omega) (.slice (some ⟨gd,0,none⟩) dl cd) dl ((jA m PL f i).map (Value.int .i64)) rfl dh ⟨b,0,none⟩ D.length c (D.map (Value.int .i64)) rfl nl hnw hone hD0 n1 n2 hsz5 (wr.heap.size+1) (by simp) ?_
      intro g6 cap6 w6 hown6 dO lI rq)
    go_roundw
    case rel=>
     refine⟨i+1,g6,cap6,by rw[BA.out,List.length_append,xU.out],by go_num,by omega,by rw[BA.out,List.length_append,xU.out,List.map_append];exact hown6,fA.out.grown dO fA.out.size fun k hk=>(dh.lt k hk).1⟩
    case measure=>simp[intOf];omega
  ·obtain rfl:i=rl:=by omega
   have UR:Hid (jA m PL f i=(m:Int)::((PL.drop f).map fun x=>x.2.2).flatten):=by
    show jA m PL f i=_;unfold jA;rw[List.take_of_length_le (by rw[List.length_drop,Bz.out,vS.out];omega)]
   have Bp:f<=cap:=by have:=vS.out;omega
   have c8:=(xV.cell (i:=8) rfl).1;have Ih:=(xV.cell (i:=8) rfl).2;rw[kS.out]at c8 Ih;have hup:=fun w=>adh (g:=g) (sl:=sl) Bp w;have Mx:=xV.cut (g:=g) (cap:=cap) (n:=f) (by rw[Bz.out]) (by rw[Bz.out,vS.out];omega);rw[kS.out]at Mx;have AO:Hid (aW w0 d (.slice (some ⟨g,0,none⟩) f cap) (PL.take f) p q (wr.setCell ⟨pU,8,none⟩ (.slice (some ⟨g,0,none⟩) f cap))):=Mx;clear xV Mx
   go_upto_region 9 with fail
   obtain⟨W4,dD⟩:∃W,wr.setCell ⟨pU,8,none⟩ (.slice (some ⟨g,0,none⟩) f cap)=W:=⟨_,rfl⟩;have adl:wr.heap.size=W4.heap.size:=by rw[<-dD];simp
   have UU:∀b,b≠pU->W4.heap[b]?=wr.heap[b]?:=fun b hb=>by rw[<-dD];exact Below.heap_setCell _ _ _ _ hb
   have HDv:Hid (pQ W4 (fun b=>W2.heap.size<=b) (.slice (some ⟨gd,0,none⟩) dl cd) (jA m PL f i)):=by
    refine .inr ⟨by rw[UR.out];simp,gd,cd,by rw[xU.out],(qI.out.lt gd rfl).1,by rw[<-adl];exact(qI.out.lt gd rfl).2,?_,fun j hj=> ?_⟩
    ·rcases qI.out.2 with⟨h0,_⟩|⟨g',cap',cur',hg',_,_,hle,_⟩
     ·cases h0
     ·injection hg' with _ _ e3;rw[xU.out];omega
    have hgr:gd≠pU:=fun e=>by
     have h1:=(qI.out.lt gd rfl).1;have h2:=iU.out.lt.1;rw[kS.out]at h2;omega
    rw[World.cell?_of_block (w:=wr) (a:=⟨gd,j,none⟩) (UU gd hgr),qI.out.cellAt j (by rw[<-xU.out];omega)];simp[List.getD,hj]
   rw[dD]at AO⊢;have xH:Hid (aW w0 d (.slice (some ⟨g,0,none⟩) f cap) (PL.take f) p q W4.drew):=AO.out.drew
   have hbx:W4.drew.cell? ⟨w.heap.size,0,none⟩=some (.int .i64 Lf):=by
    have h1:=(HB.out.cell (World.block_lt_of_cell? _ _ UQ.out)).trans UQ.out;have hgr:w.heap.size≠pU:=by omega
    exact(World.cell?_of_block (w:=wr) (a:=⟨w.heap.size,0,none⟩) (UU _ hgr)).trans h1
   have hl4:(PL.take f).length=kp+1:=by rw[List.length_take,Bz.out,vS.out,<-HF.out];omega
   have hq4:((PL.take f).getD kp eZ).1=qs:=by rw[<-HQs.out];simp[List.getD,<-HF.out]
   obtain⟨xv,hxv⟩:∃x,((PL.take f).getD kp eZ).2.1=x:=⟨_,rfl⟩;have la:=Ms xH.out hl4 (by have:=vS.out;have:=HF.out;omega) hq4 hxv
   obtain⟨xa,xn,xc,adm⟩:∃a n c,xv= .slice a n c:=by
    obtain⟨a,c,e⟩:=(xH.out.Bw (i:=kp) (by rw[hl4];omega)).slice;exact⟨a,_,c,by rw[<-hxv,e]⟩
   subst adm;rw[kS.out]at la;have c4:=(xH.out.cell (i:=4) rfl).1;rw[kS.out]at c4;obtain⟨yb,yo,yc,rk,hyv,k1,hrow⟩:=HE.out.tab.goto.2 qs EA.out.1;obtain⟨ub,uo,uc,Im,_,k2⟩:=hrow.2 Lf EA.out.2.1;rw[EA.out.2.2]at k2;rw[hyv]at c4;subst Im;obtain⟨rn,hrn⟩:∃x,(G.getD qs []).length=x:=⟨_,rfl⟩;rw[hrn]at k1
   have Mv:Hid (∀wq,Below W4.drew.heap.size W4.drew wq->(wq.cell? ⟨pU,4,none⟩=some (.slice (some ⟨yb,yo,none⟩) G.length yc)/\wq.cell? ⟨w.heap.size,0,none⟩=some (.int .i64 Lf))/\wq.cell? ⟨yb,yo+qs,none⟩=some (.slice (some ⟨ub,uo,none⟩) rn uc)/\wq.cell? ⟨ub,uo+Lf,none⟩=some (.int .i64 gg)):=fun wq hq=>by
    have hz:Below w0.heap.size w0 wq:=xH.out.since.trans (hq.mono xH.out.le);exact⟨⟨(hq.cell (World.block_lt_of_cell? _ _ c4)).trans c4,(hq.cell (World.block_lt_of_cell? _ _ hbx)).trans hbx⟩,(hz.cell (World.block_lt_of_cell? _ _ k1)).trans k1,(hz.cell (World.block_lt_of_cell? _ _ k2)).trans k2⟩
   have j0:(0:Int)<=(qs:Int):=Int.natCast_nonneg _;have j1:(qs:Int)<(G.length:Int):=by have:=EA.out.1;omega
   have l0:(0:Int)<=(Lf:Int):=Int.natCast_nonneg _;have l1:(Lf:Int)<(rn:Int):=by have:=EA.out.2.1;rw[hrn]at this;omega
   clear dD c8 Ih hup k1 k2 hrow hyv hrn hxv hq4;refine Fu [0,1,2,3,4,5,10,11] [6,7,8,9,12,13,14] 14 (fun w'=>w'.cell? ⟨pU,4,none⟩=some (.slice (some ⟨yb,yo,none⟩) G.length yc)/\w'.cell? ⟨w.heap.size,0,none⟩=some (.int .i64 Lf)) (by kernel_rfl) (by kernel_rfl) ⟨c4,hbx⟩ ?_
   iterate 8
    refine aO.qH (v:= ?_) rfl (by rfl) ?_ ?_;rotate_left
    ·intro w' hSw
     obtain⟨afT,afU⟩:=hSw
     go_simp
     try with_reducible rfl
    simp only[Act.put,List.setIfInBounds_toArray,List.set_cons_zero,List.set_cons_succ]
   rw[aO];refine dL.qH rfl (fun K hK=> ?_)
   go_simp
   refine la.mono ?_;rintro e w5 ⟨rfl,ak⟩;dsimp only;have fA:Hid (Below W4.drew.heap.size W4.drew w5):=ak;obtain⟨⟨m3,m4⟩,m5,m6⟩:=Mv.out w5 ak;refine hK.out _ _ (fun _=>⟨m3,m4⟩) ?_;clear hK la ak c4 hbx
   iterate 6
    refine dL.qH rfl (fun K hK=> ?_)
    go_simp
    refine hK.out _ _ (fun _=>⟨m3,m4⟩) ?_;clear hK
   rw[dL];refine NoPanic.normal ?_;clear m3 m4 m5 m6;have hlf:(PL.take f).length=f:=hl4.trans HF.out;have h5:=xH.out.below fA.out;have h6:=h5.alloc (.cells #[.int .i64 gg,.slice (some ⟨gd,0,none⟩) dl cd] 158);have UW:=h6.stack;rw[hlf]at UW;have c8:=(h5.cell (i:=8) rfl).1;have d8:=(h6.cell (i:=8) rfl).1;have Mt:=(h6.cell (i:=8) rfl).2;have d7:=(h6.cell (i:=7) rfl).1;have UX:=(h6.cell (i:=7) rfl).2;have EB:=h6.lt.1;have hne:some d.ra≠(Value.slice (some ⟨g,0,none⟩) f cap).ownBlock:=fun e=>h6.apart e.symm;rw[kS.out]at c8 d8 Mt d7 UX EB hne;have afV:f<=10000:=by have:=vS.out;omega
   have hn1:f+1<=maxLen:=by unfold maxLen;omega
   have hn2:(f+1)*32<=140737488355328:=by omega
   have aQ:w0.heap.size<=(w5.alloc (.cells #[.int .i64 gg,.slice (some ⟨gd,0,none⟩) dl cd] 158)).heap.size:=h6.le;obtain⟨i0,hi0,hz0,hz1,hz2⟩:=info_parts Tryz.infoPl;have H6:Hid (aW w0 d (.slice (some ⟨g,0,none⟩) f cap) (PL.take f) p q (w5.alloc (.cells #[.int .i64 gg,.slice (some ⟨gd,0,none⟩) dl cd] 158))):=h6;have GJ:Hid ((PL.take f).length=f):=hlf;clear h5 h6 hl4 hlf
   go_wp2_with
    (at_builtin
     refine wpList_append_lies _ rfl _ _ _ rfl w0.heap.size 158 i0 _ 2 32 Tryz.underlying159 hi0 hz0 hz1 hz2 rfl (by omega) (.slice (some ⟨g,0,none⟩) f cap) f (iX (PL.take f)) rfl UW ⟨w5.heap.size,0,none⟩ 1 1 [.int .i64 gg,.slice (some ⟨gd,0,none⟩) dl cd] rfl rfl (World.news_of_block (cs:= #[.int .i64 gg,.slice (some ⟨gd,0,none⟩) dl cd]) (t:=158) (fr:=(0,0)) (heap_alloc_new w5 _)) (by simp[Value.oneCell']) (by omega) hn1 hn2 aQ (w5.heap.size+1) (by simp) ?_;intro g7 kr w7 za fD zb GZ;have x8:=(fD.cell_far ⟨pU,8,none⟩ EB hne).trans d8;have x8f:=(fD.frozen_far ⟨pU,8,none⟩ EB hne).trans Mt;have x7:=(fD.cell_far ⟨pU,7,none⟩ EB hne).trans d7
     have x7f:=(fD.frozen_far ⟨pU,7,none⟩ EB hne).trans UX)
   go_end0
   refine⟨rfl,.slice (some ⟨g7,0,none⟩) (f+1) kr,.slice (some ⟨gd,0,none⟩) dl cd,?_⟩;rw[HF.out,<-UR.out]
   have hkeep:∀b,W2.heap.size<=b->b<W4.heap.size->(w5.alloc (.cells #[.int .i64 gg,.slice (some ⟨gd,0,none⟩) dl cd] 158)).heap[b]?=W4.heap[b]?/\Ig d (.slice (some ⟨g,0,none⟩) f cap) b:=fun b hb1 hb2=>by
    have hs5:W4.heap.size<=w5.heap.size:=fA.out.size;refine⟨((heap_alloc_old w5 _ (show b<w5.heap.size by omega))).trans (fA.out.block b hb2),fun e=> ?_,fun e=> ?_⟩
    ·have:=iU.out.lt.1;omega
    ·have:=(iU.out.stack.lt g rfl).2
     simp only[Value.ownBlock,Option.some.injEq]at e;omega
   have hsz:W4.heap.size<=(w5.alloc (.cells #[.int .i64 gg,.slice (some ⟨gd,0,none⟩) dl cd] 158)).heap.size:=by
    have:W4.heap.size<=w5.heap.size:=fA.out.size;simp;omega
   have r:=H6.out.turn (cu:= .slice (some ⟨g7,0,none⟩) (f+1) kr) (jP:=PL.take f++[(gg,.slice (some ⟨gd,0,none⟩) dl cd,jA m PL f i)]) fD (by
    have:=za;rw[List.length_append,GJ.out,UF]
    exact this) (fun g' hg'=>by
    obtain rfl:g7=g':=by simpa [Value.ownBlock] using hg'
    rcases zb with h5|h5
    ·exact .inl h5
    ·exact .inr (by simpa using h5)) (fun x hx=>by
    rcases List.mem_append.1 hx with hx|hx
    ·exact H6.out.zl x hx
    ·simp only[List.mem_singleton]at hx
     subst hx
     exact HDv.out.kept hsz hkeep)
   rw[kS.out]at r;have r2:=r.adb (q+1);rw[kS.out]at r2;exact r2
theorem adn{s:Int}{a:Option Addr}{n c:Nat}(w:World):Sem.run Tryz.prog (Instr.field 158 (.agg #[.int .i64 s,.slice a n c]) 1) w= .ok (.slice a n c) w:=by
 unfold Instr.field asAgg
 go_simp
def dA(PL:List Pl)(p q:Nat):PC:=⟨PL.map fun x=>x.1,(PL.drop 1).map fun x=>x.2.2,p,q⟩
section
variable{PL:List Pl}{p q:Nat}
theorem ado(h:0<PL.length)(s:Nat):dA (PL++[(s,.slice none 0 0,[])]) (p+1) q=⟨(dA PL p q).S++[s],(dA PL p q).F++[[]],p+1,q⟩:=by
 unfold dA;rw[List.drop_append_of_le_length (by omega)];simp
theorem adp{kp rl gg:Nat}(h:PL.length=kp+1+rl)(dv:Value)(m:Int):
 dA (PL.take (kp+1)++[(gg,dv,m::((PL.drop (kp+1)).map fun x=>x.2.2).flatten)]) p (q+1)=⟨(dA PL p q).S.take (kp+1)++[gg],(dA PL p q).F.take kp++[m::((dA PL p q).F.drop kp).flatten],p,q+1⟩:=by
 unfold dA;have hl:(PL.take (kp+1)).length=kp+1:=by rw[List.length_take,h];omega
 rw[List.drop_append_of_le_length (by omega)];simp only[List.map_append,List.map_take,List.map_cons,List.map_nil,List.map_drop,List.drop_drop,PC.mk.injEq,true_and,List.drop_take];refine⟨?_,trivial⟩;rw[Nat.add_comm 1 kp];simp
end
structure xW(T N:Nat)(R:List Ru)(tok:List Int)(K:Nat)(w0:World)(d:pR)(sv:Value)(PL:List Pl)(p q n:Nat)(w:World):Prop where
 m:aW w0 d sv PL p q w
 inv:lV T N R (af T N R K).1 (af T N R K).2 tok (dA PL p q)
 sum:Sum (dA PL p q)
 fst:(PL.getD 0 eZ).2.2=[]
 num:n=(tok.length-p)+(401-q)
 few:q<=400
 run:qF T R (cellP T N R (af T N R K).1 (af T N R K).2) (jd T (af T N R K).1) tok (n+1) (dA PL p q)=qG T N R (af T N R K).1 (af T N R K).2 tok
 small:0<PL.length/\PL.length+n<=1000
theorem xW.next{T N:Nat}{R:List Ru}{tok:List Int}{K:Nat}{w0:World}{d:pR}{sv cu:Value}{PL jP:List Pl}{p q n p' q':Nat}{w w':World}(h:xW T N R tok K w0 d sv PL p q n w)(lr:nC T N R (af T N R K).1 (af T N R K).2)(oC:∀t∈tok,0<=t/\t<(T:Int))
 (hst:jO T R (cellP T N R (af T N R K).1 (af T N R K).2) (jd T (af T N R K).1) tok (dA PL p q)= .go (dA jP p' q')) (hq:q'<=400) (hM:aW w0 d cu jP p' q' w') (h0:(jP.getD 0 eZ).2.2=[]) (hS:0<jP.length/\jP.length<=PL.length+1):n-1<n/\xW T N R tok K w0 d cu jP p' q' (n-1) w':=by
 have hi:=h.inv.go lr oC hst;have hs:=acT hst;have hp:p'<=tok.length:=hi.pos;have hp0:p<=tok.length:=h.inv.pos;have hn:=h.num;have hsm:=h.small;have vF:=h.few;have hs1:p'+q'=p+q+1/\q<=q'/\p<=p':=hs;refine⟨by omega,hM,hi,Ux hst h.sum,h0,by omega,hq,?_,by omega⟩;have hr:=h.run;rw[Uw hst vF]at hr;rw[show n-1+1=n by omega];exact hr
theorem xW.total{T N:Nat}{R:List Ru}{tok:List Int}{K:Nat}{w0:World}{d:pR}{sv:Value}{PL:List Pl}{p q n:Nat}{w:World}(h:xW T N R tok K w0 d sv PL p q n w):((PL.map fun x=>x.2.2).map List.length).sum<=10000:=by
 have h1:=h.sum;have h2:=h.small.1;have h3:=h.fst;have h4:=h.few;unfold Sum dA at h1;simp only at h1;cases PL with
 |nil=>simp at h2
 |cons x L=>
  simp only[List.drop_succ_cons,List.drop_zero]at h1;have h5:x.2.2=[]:=h3;rw[List.map_cons,List.map_cons,List.sum_cons,h5,h1];simp;omega
theorem adq{w0 w:World}{d:pR}{sv:Value}{R:List Ru}{tok:List Int}{N K:Nat}(h:aW w0 d sv [eZ] 0 0 w)(E:zm w0 d R tok (bZ d.T N R K) (iP d.T N R K))(hf:bM d.T N R)(hW:Whole d.T N R K)(hN:0<N)(hcl:fw (bZ d.T N R K)=0)(oC:∀t∈tok,0<=t/\t<(d.T:Int))(gI:tok.length<=30):
 Calls Tryz.prog 92 #[.pointer (some ⟨d.ra,0,none⟩)] w fun e w'=> ∃dv D a x,e= .returned (.tuple #[dv,.int .i64 a,.int .i64 x])/\Ew w' dv D/\(D,a,x)=Br (qG d.T N R (af d.T N R K).1 (af d.T N R K).2 tok)/\Below w0.heap.size w0 w':=by
 obtain⟨T,hT⟩:∃T,d.T=T:=⟨_,rfl⟩;rw[hT]at E hf hW hcl oC⊢;have hlr:=Uq hf hW (UA hW);have EC:Hid (nC T N R (af T N R K).1 (af T N R K).2):=hlr;have afW:Hid (∀k,k<K->∀t,t<=T->xh (cellP T N R (af T N R K).1 (af T N R K).2 k t)=true):=acY hcl;have zu:Hid (∀t∈tok,0<=t/\t<(T:Int)):=oC;have zk:Hid (Whole T N R K):=hW;have HF:Hid (bM T N R):=hf;have HE:Hid (zm w0 d R tok (bZ T N R K) (iP T N R K)):=E
 have Bb:Hid (xW T N R tok K w0 d sv [eZ] 0 0 (tok.length+401) w):=by
  refine⟨h,Ut,rfl,rfl,by omega,by omega,rfl,by simp;omega⟩
 have HT:Hid (d.T=T):=hT;obtain⟨rb,hrb⟩:∃x,d.ra=x:=⟨_,rfl⟩;have kS:Hid (d.ra=rb):=hrb;rw[hrb];clear h E hf hW hcl oC hlr hT hrb
 go_enter Tryz.func92,Tryz.ntmps92
 go_wp2_with fail
 go_loopg [2] (tok.length+401) (fun n s2 wr=>s2= .slice none 0 0/\∃(sv:Value) (PL:List Pl) (p q:Nat),xW T N R tok K w0 d sv PL p q n wr)
 case atStart=>exact⟨rfl,_,_,_,_,Bb.out⟩
 case round=>
  clear Bb;obtain⟨rfl,ED,PL,p,q,cK⟩:=hrel;have dN:Hid (xW T N R tok K w0 d ED PL p q gk wr):=cK;have vF:=cK.few;have hsm:=cK.small;have jD:=cK.num;obtain⟨sh1,EF,MB⟩:=cK.inv.shape EC.out;have hKl:(af T N R K).2.length=K:=zk.out;rw[hKl]at EF MB;obtain⟨k,hk⟩:∃k,PL.length=k+1:=⟨PL.length-1,by omega⟩
  have htop:xR (dA PL p q)=(PL.getD k eZ).1:=by
   unfold xR dA;simp[List.getD,hk]
  obtain⟨tp,htp⟩:∃tp,(PL.getD k eZ).1=tp:=⟨_,rfl⟩;rw[htop,htp]at EF;have hpl:p<=tok.length:=cK.inv.pos;have UY:=acO zu.out p;obtain⟨nt,hnt⟩:∃nt,jN T tok p=nt:=⟨_,rfl⟩;rw[hnt]at UY;obtain⟨⟨sh,mO,en⟩,hce⟩:∃x,cellP T N R (af T N R K).1 (af T N R K).2 tp nt=x:=⟨_,rfl⟩
  have Bd:=adf (tp:=tp) (nt:=nt) (sh:=sh) (mO:=mO) (en:=en) cK.m HE.out hk (by omega) htp (by rw[rQ];exact EF) (by rw[vQ EF,Es];omega) (fun hpt=>by
   rw[<-hnt];unfold jN;rw[if_pos hpt];have e1:tok.getD p 0=tok[p]:=by simp[List.getD,hpt]
   have:=zu.out tok[p] (List.getElem_mem hpt);rw[e1]
   omega) (fun hpt=>by
   rw[<-hnt,HT.out];unfold jN
   rw[if_neg hpt]) (by rw[vQ EF,Mj UY,hce])
  have hstep:jO T R (cellP T N R (af T N R K).1 (af T N R K).2) (jd T (af T N R K).1) tok (dA PL p q)=pO R (jd T (af T N R K).1) (dA PL p q) (sh,mO,en):=by
   unfold jO;rw[htop,htp];show pO R _ _ (cellP T N R _ _ tp (jN T tok p))=_;rw[hnt,hce]
  have jU:Hid (jO T R (cellP T N R (af T N R K).1 (af T N R K).2) (jd T (af T N R K).1) tok (dA PL p q)=pO R (jd T (af T N R K).1) (dA PL p q) (sh,mO,en)):=hstep;have Ij:Hid (cellP T N R (af T N R K).1 (af T N R K).2 tp nt=(sh,mO,en)):=hce;have adr:Hid (xR (dA PL p q)=tp):=htop.trans htp;have gq:Hid (PL.length=k+1):=hk;have Ug:Hid (∀s∈(dA PL p q).S,s<K):=MB;rw[kS.out]at Bd;clear hstep hce htop htp hnt MB sh1 cK hk;obtain⟨m2,hm2⟩:∃m2,mO.length=m2:=⟨_,rfl⟩;have iU:Hid (mO.length=m2):=hm2
  have uj:=Bd.mono (R':=fun e w'=> ∃ua uc,e= .returned (.agg #[.int .i64 sh,.slice ua m2 uc,.bool en])/\aP w' w'.heap.size (.slice ua m2 uc) mO/\Below wr.heap.size wr w') fun e w' ⟨rl,h1,h2,h3⟩=>by
   obtain⟨a,c,hrl⟩:=h2.1;rw[hm2]at hrl;subst hrl;exact⟨a,c,h1,h2,h3⟩
  clear Bd hm2;have ko:Hid (∀w5 (o:Obj),Below wr.heap.size wr w5->aW w0 d ED PL p q (w5.alloc o)):=fun w5 o hb=>(dN.out.m.below hb).alloc o;cases en with
  |true=>
   have hfin:=dN.out.inv.fin EC.out zu.out (d:=(dA PL p q).F.getD 0 []) (by rw[jU.out];rfl);obtain⟨dd,hdd⟩:∃dd,(dA PL p q).F.getD 0 []=dd:=⟨_,rfl⟩;rw[hdd]at hfin
   have hdone:qG T N R (af T N R K).1 (af T N R K).2 tok= .done dd:=by
    rw[<-dN.out.run,qF,if_pos (by exact vF)];simp only[jU.out,pO,if_true];rw[hdd]
   have HDn:Hid (qG T N R (af T N R K).1 (af T N R K).2 tok= .done dd):=hdone
   have hk1:k=1:=by
    have:=congrArg List.length hfin.2;simp only[dA,List.length_map,List.length_drop,gq.out,List.length_singleton]at this;omega
   subst hk1
   have HD2:Hid ((PL.getD 1 eZ).2.2=dd):=by
    show (PL.getD 1 eZ).2.2=dd;have h2:=gq.out
    match PL,h2 with
    | [a,b],_=>
     have h3:=hfin.2;simp only[dA,List.drop_succ_cons,List.drop_zero,List.map_cons,List.map_nil,List.cons.injEq,and_true]at h3;exact h3
   obtain⟨x1,hx1⟩:∃x,(PL.getD 1 eZ).2.1=x:=⟨_,rfl⟩;have pI:Hid ((PL.getD 1 eZ).2.1=x1):=hx1;obtain⟨s1,hs1⟩:∃x,(PL.getD 1 eZ).1=x:=⟨_,rfl⟩;have qp:Hid ((PL.getD 1 eZ).1=s1):=hs1
   obtain⟨da,dn,dc,hxs⟩:∃a n c,x1= .slice a n c:=by
    obtain⟨a,c,e⟩:=(dN.out.m.Bw (i:=1) (by rw[gq.out];omega)).slice;exact⟨a,_,c,by rw[<-hx1,e]⟩
   subst hxs;have hfd:=fun w=>adn (s:=(s1:Int)) (a:=da) (n:=dn) (c:=dc) w;clear hfin hdd hdone hx1 hs1
   go_wp2_with
    (first
     |(go_at_call 118;refine uj.mono ?_;rintro e w5 ⟨ua,uc,rfl,hL5,ak⟩
       have fT:=ko.out w5 (.cells #[.int .i64 sh,.slice ua m2 uc,.bool true] 112) ak;have AP:Hid (aW w0 d ED PL p q (w5.alloc (.cells #[.int .i64 sh,.slice ua m2 uc,.bool true] 112))):=fT;have la:=Ms fT gq.out (by omega) qp.out pI.out;rw[kS.out]at la
       clear fT hL5 ak uj)
     |(go_at_call 119;refine la.mono ?_;rintro e w6 ⟨rfl,aQ⟩
       have mJ:Hid (aW w0 d ED PL p q w6):=AP.out.below aQ
       clear la aQ))
   refine bodyPost_ret (v:= .tuple #[.slice da dn dc,.int .i64 (-1),.int .i64 0]) (by simp[results,Tryz.results92,go_sem]) rfl ?_;have hdv:=(mJ.out.Bw (i:=1) (by rw[gq.out];omega)).ac9;rw[pI.out,HD2.out]at hdv;exact⟨_,dd,-1,0,rfl,hdv,by rw[HDn.out];rfl,mJ.out.since⟩
  |false=>
   by_cases hsh:0<=sh
   ·obtain⟨sn,rfl⟩:∃sn:Nat,sh=sn:=⟨sh.toNat,by omega⟩
    have hgo:jO T R (cellP T N R (af T N R K).1 (af T N R K).2) (jd T (af T N R K).1) tok (dA PL p q)= .go (dA (PL++[(sn,.slice none 0 0,[])]) (p+1) q):=by
     rw[jU.out,ado hsm.1];unfold pO;simp only[Bool.false_eq_true,if_false,hsh,if_true,Int.toNat_natCast];rfl
    have yU:Hid (jO T R (cellP T N R (af T N R K).1 (af T N R K).2) (jd T (af T N R K).1) tok (dA PL p q)= .go (dA (PL++[(sn,.slice none 0 0,[])]) (p+1) q)):=hgo;clear hgo
    go_wp2_with
     (first
      |(go_at_call 118;refine uj.mono ?_;rintro e w5 ⟨ua,uc,rfl,hL5,ak⟩
        have MC:=ade (ko.out w5 (.cells #[.int .i64 sn,.slice ua m2 uc,.bool false] 112) ak) hsm.1 (by omega) (by omega) sn;rw[kS.out]at MC
        clear hL5 ak uj)
      |(go_at_call 120;refine MC.mono ?_;rintro e w6 ⟨rfl,ME,jv⟩
        have mJ:Hid (aW w0 d ME (PL++[(sn,.slice none 0 0,[])]) (p+1) q w6):=jv
        clear MC jv))
    have hnx:=dN.out.next EC.out zu.out yU.out vF mJ.out (by
     have:=dN.out.fst;rw[List.getD,List.getElem?_append_left hsm.1]
     exact this) (by simp)
    go_roundg (gk-1)
    case measure=>exact hnx.1
    case rel=>exact⟨rfl,_,_,_,_,hnx.2⟩
   ·have afX:decide (0<=sh)=false:=decide_eq_false hsh
    cases nD:mO with
    |nil=>
     have ads:m2=0:=by rw[<-iU.out,nD];rfl
     subst ads
     have hno:qG T N R (af T N R K).1 (af T N R K).2 tok= .none p:=by
      rw[<-dN.out.run,qF,if_pos (by exact vF)];simp only[jU.out,pO,nD,if_neg hsh];simp[dA]
     have HDn:Hid (qG T N R (af T N R K).1 (af T N R K).2 tok= .none p):=hno;clear hno nD
     go_wp2_with
      (go_at_call 118;refine uj.mono ?_;rintro e w5 ⟨ua,uc,rfl,hL5,ak⟩
       have fT:=ko.out w5 (.cells #[.int .i64 sh,.slice ua 0 uc,.bool false] 112) ak;have c6:=(fT.cell (i:=6) rfl).1;rw[kS.out]at c6;have vk:Hid (Below w0.heap.size w0 (w5.alloc (.cells #[.int .i64 sh,.slice ua 0 uc,.bool false] 112))):=fT.since
       clear fT hL5 ak uj)
     go_big_quiet (fail)
     go_wp2_with fail
     refine bodyPost_ret (v:= .tuple #[.slice none 0 0,.int .i64 p,.int .i64 0]) (by simp[results,Tryz.results92,go_sem]) rfl ?_;exact⟨_,[],p,0,rfl,⟨⟨⟨_,_,rfl⟩,fun p hp=>by simp at hp⟩,_,_,_,rfl,Nat.le_refl _⟩,by rw[HDn.out];rfl,below_drewN vk.out _⟩
    |cons q1 rest=>
     obtain⟨m,rfl,Bq,hdn⟩:=Mg (T:=T) (N:=N) (R:=R) (NL:=(af T N R K).1) (Ls:=(af T N R K).2) (k:=tp) (t:=nt) (q:=q1) (by rw[Ij.out,nD];simp);obtain⟨_,hr1,hr2,gg,hr3⟩:=dN.out.inv.red EC.out (t:=nt) (m:=m) (by rw[adr.out,Ij.out,nD];simp);rw[show (af T N R K).2.length=K from zk.out]at hr2;have Em:(dA PL p q).F.length=k:=by simp[dA,gq.out]
     rw[Em]at hr1 hr2 hr3;obtain⟨rl,hrl⟩:∃x,(R.getD m (0,[])).2.length=x:=⟨_,rfl⟩;have UZ:=HF.out.left (R.getD m (0,[])) (by simp[List.getD,Bq]);obtain⟨Lf,Cx⟩:∃Lf:Nat,(R.getD m (0,[])).1=(Lf:Int):=⟨(R.getD m (0,[])).1.toNat,by omega⟩;rw[hrl]at hr1 hr2 hr3;rw[Cx]at hr3 UZ;rw[Int.toNat_natCast]at hr3;obtain⟨kp,hkp⟩:∃kp,k=kp+rl:=⟨k-rl,by omega⟩;rw[hkp,show kp+rl-rl=kp by omega]at hr2 hr3
     have MF:(dA PL p q).S.getD kp 0=(PL.getD kp eZ).1:=by
      have:kp<PL.length:=by rw[gq.out];omega
      simp[dA,List.getD,this]
     rw[MF]at hr2 hr3;obtain⟨qs,zo⟩:∃x,(PL.getD kp eZ).1=x:=⟨_,rfl⟩;rw[zo]at hr2 hr3;have Io:PL.length=kp+1+rl:=by rw[gq.out];omega
     have hgo:∀dv,jO T R (cellP T N R (af T N R K).1 (af T N R K).2) (jd T (af T N R K).1) tok (dA PL p q)= .go (dA (PL.take (kp+1)++[(gg,dv,(m:Int)::((PL.drop (kp+1)).map fun x=>x.2.2).flatten)]) p (q+1)):=fun dv=>by
      rw[jU.out,nD,adp Io];unfold pO;simp only[Bool.false_eq_true,if_false,if_neg hsh];unfold Er;simp only[Int.toNat_natCast,Em,hrl,hkp];rw[show kp+rl-rl=kp by omega,MF,zo,Cx,Int.toNat_natCast,hr3,Int.toNat_natCast];rfl
     have yU:Hid (∀dv,jO T R (cellP T N R (af T N R K).1 (af T N R K).2) (jd T (af T N R K).1) tok (dA PL p q)= .go (dA (PL.take (kp+1)++[(gg,dv,(m:Int)::((PL.drop (kp+1)).map fun x=>x.2.2).flatten)]) p (q+1))):=hgo;have adt:m2=rest.length+1:=by rw[<-iU.out,nD];rfl
     have afY:((m2:Int)==0)=false:=by simp;omega
     have MG:Hid (mO=(m:Int)::rest):=nD
     have adu:Hid (∀w6,aW w0 d ED PL p q w6->Calls Tryz.prog 121 #[.pointer (some ⟨rb,0,none⟩),.int .i64 m] w6 fun e w'=>e= .returned (.tuple #[])/\∃cu dv,aW w0 d cu (PL.take (kp+1)++[(gg,dv,(m:Int)::((PL.drop (kp+1)).map fun x=>x.2.2).flatten)]) p (q+1) w'):=fun w6 h6=>by
      have:=adj h6 HE.out (m:=m) (kp:=kp) (rl:=rl) (Lf:=Lf) (qs:=qs) (gg:=gg) Bq Cx hrl Io (by omega) (by omega) dN.out.total zo (by rw[Uz];exact hr2) (by rw[acZ zk.out hr2 hN];omega) (by rw[acX hr2];exact hr3);rw[kS.out]at this;exact this
     have U0:Hid (PL.length=kp+1+rl):=Io;clear hgo nD adt hr3 hdn Cx hrl zo MF Em Io UZ hr1 hkp;by_cases hq4:q=400
     ·subst hq4
      have hno:qG T N R (af T N R K).1 (af T N R K).2 tok= .size:=by
       rw[<-dN.out.run,Uw (yU.out (.slice none 0 0)) (by exact vF)];cases gk with
       |zero=>rfl
       |succ n=>rw[qF,if_neg (by simp[dA])]
      have HDn:Hid (qG T N R (af T N R K).1 (af T N R K).2 tok= .size):=hno;clear hno
      go_wp2_with
       (go_at_call 118;refine uj.mono ?_;rintro e w5 ⟨ua,uc,rfl,hL5,ak⟩
        have fT:=ko.out w5 (.cells #[.int .i64 sh,.slice ua m2 uc,.bool false] 112) ak;have c7:=(fT.cell (i:=7) rfl).1;rw[kS.out]at c7;have vk:Hid (Below w0.heap.size w0 (w5.alloc (.cells #[.int .i64 sh,.slice ua m2 uc,.bool false] 112))):=fT.since
        clear fT hL5 ak uj)
      refine bodyPost_ret (v:= .tuple #[.slice none 0 0,.int .i64 0,.int .i64 1]) (by simp[results,Tryz.results92,go_sem]) rfl ?_;exact⟨_,[],0,1,rfl,⟨⟨⟨_,_,rfl⟩,fun p hp=>by simp at hp⟩,_,_,_,rfl,Nat.le_refl _⟩,by rw[HDn.out];rfl,vk.out⟩
     ·have DR:((q:Int)==400)=false:=by simp;omega
      go_wp2_with
       (first
        |(go_at_call 118;refine uj.mono ?_;rintro e w5 ⟨ua,uc,rfl,hL5,ak⟩
          have fT:=ko.out w5 (.cells #[.int .i64 sh,.slice ua m2 uc,.bool false] 112) ak;have c7:=(fT.cell (i:=7) rfl).1;rw[kS.out]at c7;obtain⟨lb,lo,lc,hlv,hlb,x0⟩:=hL5.2 0 (by rw[MG.out];simp);rw[iU.out]at hlv;injection hlv with hl1 _ hl3;subst hl1;subst hl3;rw[MG.out]at x0;have y0:(w5.alloc (.cells #[.int .i64 sh,.slice (some ⟨lb,lo,none⟩) m2 uc,.bool false] 112)).cell? ⟨lb,lo,none⟩=some (.int .i64 m):=(World.cell?_alloc_past _ _ _ hlb).trans x0;have afZ:(0:Int)<(m2:Int):=by have:=iU.out;rw[MG.out]at this;simp at this;omega
          have red:=adu.out _ fT
          clear fT hL5 ak uj x0)
        |(go_at_call 121;refine red.mono ?_;rintro e w6 ⟨rfl,ME,U1,jv⟩
          have mJ:Hid (aW w0 d ME (PL.take (kp+1)++[(gg,U1,(m:Int)::((PL.drop (kp+1)).map fun x=>x.2.2).flatten)]) p (q+1) w6):=jv
          clear red jv))
      have hnx:=dN.out.next EC.out zu.out (yU.out U1) (by omega) mJ.out (by
       have h1:=dN.out.fst;have h2:0<(PL.take (kp+1)).length:=by rw[List.length_take,U0.out];omega
       rw[List.getD,List.getElem?_append_left h2,List.getElem?_take,if_pos (by omega)]
       exact h1) (by
       have:=U0.out;simp
       omega)
      go_roundg (gk-1)
      case measure=>exact hnx.1
      case rel=>exact⟨rfl,_,_,_,_,hnx.2⟩
theorem Ip{w:World}{T N x:Int}{rv tv:Value}{R:List Ru}{tok:List Int}(hr:au w w.heap.size rv R)(ht:aP w w.heap.size tv tok)(hx:x≠0)
 (tf:Calls Tryz.prog 91 #[.agg #[.int .i64 T,.int .i64 N,rv],tv] (w.alloc (.cells #[.int .i64 T,.int .i64 N,rv] 26)) fun e w'=>e= .returned (vR x)/\Below (w.alloc (.cells #[.int .i64 T,.int .i64 N,rv] 26)).heap.size (w.alloc (.cells #[.int .i64 T,.int .i64 N,rv] 26)) w'):
 Calls Tryz.prog 67 #[.agg #[.int .i64 T,.int .i64 N,rv],tv] w fun e w'=>e= .returned (.tuple #[.slice none 0 0,.int .i64 0,.int .i64 x])/\Below w.heap.size w w':=by
 obtain⟨ra,rc,aG⟩:=hr.1;obtain⟨ta,tc,dW⟩:=ht.1;subst aG;subst dW;have HB0:Hid (Below w.heap.size w (w.alloc (.cells #[.int .i64 T,.int .i64 N,.slice ra R.length rc] 26))):=(Below.refl _ _).alloc (Nat.le_refl _) _;have hxn:(x !=0)=true:=by simpa using hx
 clear hr ht
 go_enter Tryz.func67,Tryz.ntmps67
 go_wp2_with
  (go_at_call 91;refine tf.mono ?_;rintro e w1 ⟨rfl,hB1⟩
   have HB1:Hid (Below w.heap.size w (w1.alloc (.cells #[.slice none 0 0,.slice none 0 0] 67))):=(HB0.out.trans (hB1.mono (by simp))).alloc (by have:=hB1.size;simp at this;omega) _
   clear hB1)
 refine bodyPost_ret (v:= .tuple #[.slice none 0 0,.int .i64 0,.int .i64 x]) (by simp[results,Tryz.results67,go_sem]) rfl ⟨rfl,HB1.out⟩
theorem adw{w:World}{T N K:Nat}{rv tv:Value}{R:List Ru}{tok:List Int}(hr:au w w.heap.size rv R)(ht:aP w w.heap.size tv tok)(hf:bM T N R)(hN:0<N)(hW:Whole T N R K)(hcl:fw (bZ T N R K)=0)(hin:dx T tok=true)(gI:tok.length<=30)
 (tf:Calls Tryz.prog 91 #[.agg #[.int .i64 T,.int .i64 N,rv],tv] (w.alloc (.cells #[.int .i64 T,.int .i64 N,rv] 26)) fun e w'=>Below (w.alloc (.cells #[.int .i64 T,.int .i64 N,rv] 26)).heap.size (w.alloc (.cells #[.int .i64 T,.int .i64 N,rv] 26)) w'/\
   ∃ca cc ga gc,e= .returned (.tuple #[.agg #[.slice ca K cc,.slice ga K gc],.int .i64 0])/\TabAt w' (.slice ca K cc) (.slice ga K gc) (bZ T N R K) (iP T N R K)):
 Calls Tryz.prog 67 #[.agg #[.int .i64 T,.int .i64 N,rv],tv] w fun e w'=> ∃dv D a x,e= .returned (.tuple #[dv,.int .i64 a,.int .i64 x])/\Ew w' dv D/\(D,a,x)=Br (qG T N R (af T N R K).1 (af T N R K).2 tok)/\Below w.heap.size w w':=by
 obtain⟨ra,rc,aG⟩:=hr.1;obtain⟨ta,tc,dW⟩:=ht.1;subst aG;subst dW;have HB0:Hid (Below w.heap.size w (w.alloc (.cells #[.int .i64 T,.int .i64 N,.slice ra R.length rc] 26))):=(Below.refl _ _).alloc (Nat.le_refl _) _;have HR:Hid (au w w.heap.size (.slice ra R.length rc) R):=hr;have HT:Hid (aP w w.heap.size (.slice ta tok.length tc) tok):=ht
 have zu:Hid (∀t∈tok,0<=t/\t<(T:Int)):=by
  intro t ht;unfold dx at hin;have:=List.all_eq_true.1 hin t ht;simpa using this
 have HF:Hid (bM T N R):=hf;have HW:Hid (Whole T N R K/\fw (bZ T N R K)=0):=⟨hW,hcl⟩;clear hr ht hf hW hcl hin
 go_enter Tryz.func67,Tryz.ntmps67
 go_upto_region 4 with
  (go_at_call 91
   go_loud
    (refine tf.mono ?_
     rintro e w1 ⟨hB1,ca,cc,ga,gc,rfl,Ev⟩;rw[World.size_alloc]at hB1;have HB1:Hid (Below (w.heap.size+1) (w.alloc (.cells #[.int .i64 T,.int .i64 N,.slice ra R.length rc] 26)) w1):=hB1;have Ie:Hid (TabAt w1 (.slice ca K cc) (.slice ga K gc) (bZ T N R K) (iP T N R K)):=Ev
     clear hB1 Ev))
 have hs1:w.heap.size+1<=w1.heap.size:=by have:=HB1.out.size;simpa using this
 obtain⟨W2,hW2⟩:∃W,w1.alloc (.cells #[.slice ca K cc,.slice ga K gc] 67)=W:=⟨_,rfl⟩;have hB2:Below w1.heap.size w1 W2:=by rw[<-hW2];exact(Below.refl _ _).alloc (Nat.le_refl _) _
 have hBw:Below w.heap.size w W2:=(HB0.out.trans (HB1.out.mono (by omega))).trans (hB2.mono (by omega));have b0:W2.cell? ⟨w.heap.size,0,none⟩=some (.int .i64 T):=(hB2.cell (by simp only;omega)).trans ((HB1.out.cell (by simp)).trans (by simp[go_sem]));have b1:W2.cell? ⟨w.heap.size,1,none⟩=some (.int .i64 N):=(hB2.cell (by simp only;omega)).trans ((HB1.out.cell (by simp)).trans (by simp[go_sem]));have b2:W2.cell? ⟨w.heap.size,2,none⟩=some (.slice ra R.length rc):=(hB2.cell (by simp only;omega)).trans ((HB1.out.cell (by simp)).trans (by simp[go_sem]));have t0:W2.cell? ⟨w1.heap.size,0,none⟩=some (.slice ca K cc):=by rw[<-hW2];simp[go_sem]
 have t1:W2.cell? ⟨w1.heap.size,1,none⟩=some (.slice ga K gc):=by rw[<-hW2];simp[go_sem]
 rw[hW2];clear hW2
 have E:zm W2 ⟨W2.heap.size+1,T,N,.slice ra R.length rc,.slice ca K cc,.slice ga K gc,.slice ta tok.length tc⟩ R tok (bZ T N R K) (iP T N R K):=
  ⟨(HR.out.below hBw).mono hBw.size,(HT.out.below hBw).mono hBw.size,Ie.out.below hB2⟩
 have M0:aW W2 ⟨W2.heap.size+1,T,N,.slice ra R.length rc,.slice ca K cc,.slice ga K gc,.slice ta tok.length tc⟩ (.slice (some ⟨W2.heap.size,0,none⟩) 1 1) [eZ] 0 0
  ((W2.alloc (.cells #[.int .i64 0,.slice none 0 0] 158)).alloc (.cells #[.int .i64 T,.int .i64 N,.slice ra R.length rc,.slice ca K cc,.slice ga K gc,.slice ta tok.length tc,.int .i64 0,.int .i64 0,.slice (some ⟨W2.heap.size,0,none⟩) 1 1] 161)):=by
  refine⟨⟨fun i r hr=> ?_,fun i j x y hij hx hy g h1 h2=> ?_⟩,fun x hx=> ?_,((Below.refl _ _).alloc (Nat.le_refl _) _).alloc (by simp) _⟩
  ·cases i with
   |ru=>
    simp only[oD,Option.some.injEq]at hr;subst hr;have:=World.ownsRow_lit (base:=W2.heap.size) (e:=161) (size:=9) (W2.alloc (.cells #[.int .i64 0,.slice none 0 0] 158)) #[.int .i64 T,.int .i64 N,.slice ra R.length rc,.slice ca K cc,.slice ga K gc,.slice ta tok.length tc,.int .i64 0,.int .i64 0,.slice (some ⟨W2.heap.size,0,none⟩) 1 1] 1 (by simp) (by unfold maxLen;omega) rfl;simp only[World.size_alloc]at this;exact this
   |st=>
    simp only[oD,Option.some.injEq]at hr;subst hr;have:=World.ownsRow_lit (base:=W2.heap.size) (e:=158) (size:=2) W2 #[.int .i64 0,.slice none 0 0] 1 (Nat.le_refl _) (by unfold maxLen;omega) rfl;exact this.alloc _
  ·cases i<;>cases j<;>simp only[oD,Option.some.injEq]at hx hy<;>subst hx<;>subst hy
   ·exact hij rfl
   ·simp only[Value.ownBlock,Option.some.injEq]at h1 h2;omega
   ·simp only[Value.ownBlock,Option.some.injEq]at h1 h2;omega
   ·exact hij rfl
  ·simp only[List.mem_singleton]at hx
   subst hx;exact .inl ⟨rfl,rfl⟩
 have rr:=adq M0 E HF.out HW.out.1 hN HW.out.2 zu.out gI;have jk:Hid (Below w.heap.size w W2):=hBw;clear E M0 hB2 hBw
 go_wp2_with
  (go_at_call 92;refine rr.mono ?_;rintro e w3 ⟨dv,D,a,x,rfl,hL,hA,hB⟩
   obtain⟨da,dc,hdv⟩:=hL.1.1;obtain⟨dn,hdn⟩:∃n,D.length=n:=⟨_,rfl⟩;rw[hdn]at hdv;subst hdv;have Bn:Hid (Ew w3 (.slice da dn dc) D/\(D,a,x)=Br (qG T N R (af T N R K).1 (af T N R K).2 tok)/\Below W2.heap.size W2 w3):=⟨hL,hA,hB⟩
   clear hL hA hB hdn rr)
 refine bodyPost_ret (v:= .tuple #[.slice da dn dc,.int .i64 a,.int .i64 x]) (by simp[results,Tryz.results67,go_sem]) rfl ?_;exact⟨_,D,a,x,rfl,Bn.out.1,Bn.out.2.1,jk.out.trans (Bn.out.2.2.mono jk.out.size)⟩
theorem Iq(w:World):aP w w.heap.size (.slice none 0 0) []:=⟨⟨_,_,rfl⟩,fun _ hp=>absurd hp (Nat.not_lt_zero _)⟩
theorem adx{w:World}{T N:Nat}{rv tv:Value}{R:List Ru}{tok:List Int}(hr:au w w.heap.size rv R)(ht:aP w w.heap.size tv tok)(hm:aD T N R=true):
 Calls Tryz.prog 67 #[.agg #[.int .i64 T,.int .i64 N,rv],tv] w fun e w'=> ∃dv D a x,e= .returned (.tuple #[dv,.int .i64 a,.int .i64 x])/\Ew w' dv D/\zi T N R tok (D,a,x)/\Below w.heap.size w w':=by
 have hr1:=hr.boxed (.cells #[.int .i64 T,.int .i64 N,rv] 26);have ht1:=ht.boxed (.cells #[.int .i64 T,.int .i64 N,rv] 26);by_cases gI:30<tok.length
 ·refine(Ip hr ht (by decide) (ac5 hr1 ht1 hm gI)).mono fun e w' ⟨h1,h2⟩=>⟨_,[],0,1,h1,⟨Iq _,_,_,_,rfl,Nat.le_refl _⟩,?_,h2⟩
  by_cases hmo:More T N R 150
  ·exact .inl ⟨hmo,rfl⟩
  ·obtain⟨K,hW,hK⟩:=Ic (by omega) hmo
   have e:eG T N R tok=1:=by simp[eG,hm,gI]
   exact .inr ⟨K,hW,hK,.inl ⟨by rw[e];decide,by rw[e]⟩⟩
 ·by_cases hmo:More T N R 150
  ·exact(Ip hr ht (by decide) (ac6 hr1 ht1 hm (by omega) hmo)).mono fun e w' ⟨h1,h2⟩=>⟨_,[],0,1,h1,⟨Iq _,_,_,_,rfl,Nat.le_refl _⟩,.inl ⟨hmo,rfl⟩,h2⟩
  ·obtain⟨K,hW,hK⟩:=Ic (by omega) hmo
   have tf:=ac7 hr1 ht1 hm (by omega) hmo;cases hin:dx T tok with
   |false=>
    have U2:eG T N R tok=3:=by simp[eG,hm,gI,hin]
    refine(Ip (x:=3) hr ht (by decide) (tf.mono fun e w' ⟨K',k1,k2,k3,k4⟩=> ?_)).mono fun e w' ⟨h1,h2⟩=>⟨_,[],0,3,h1,⟨Iq _,_,_,_,rfl,Nat.le_refl _⟩,.inr ⟨K,hW,hK,.inl ⟨by rw[U2];decide,by rw[U2]⟩⟩,h2⟩
    ·rcases k4 with⟨_,k5⟩|⟨k5,_⟩|⟨k5,_⟩
     ·exact⟨k5,k3⟩
     ·rw[hin]at k5;cases k5
     ·rw[hin]at k5;cases k5
   |true=>
    have e0:eG T N R tok=0:=by simp[eG,hm,gI,hin]
    by_cases hcl:fw (bZ T N R K)=0
    ·obtain⟨_,hN1,_,_,_⟩:=fV hm
     refine(adw hr ht (QK hm) hN1 hW hcl hin (by omega) (tf.mono fun e w' ⟨K',k1,k2,k3,k4⟩=> ?_)).mono fun e w' ⟨dv,D,a,x,h1,h2,h3,h4⟩=>⟨dv,D,a,x,h1,h2,.inr ⟨K,hW,hK,.inr (.inr ⟨e0,hcl,h3⟩)⟩,h4⟩;have:=Et k1 hW;subst this;rcases k4 with⟨k5,_⟩|⟨_,k5,_⟩|⟨_,_,k5⟩
     ·rw[hin]at k5;cases k5
     ·omega
     ·exact⟨k3,k5⟩
    ·refine(Ip (x:=4) hr ht (by decide) (tf.mono fun e w' ⟨K',k1,k2,k3,k4⟩=> ?_)).mono fun e w' ⟨h1,h2⟩=>⟨_,[],0,4,h1,⟨Iq _,_,_,_,rfl,Nat.le_refl _⟩,.inr ⟨K,hW,hK,.inr (.inl ⟨e0,by omega,rfl⟩)⟩,h2⟩
     have:=Et k1 hW;subst this;rcases k4 with⟨k5,_⟩|⟨_,_,k5⟩|⟨_,k5,_⟩
     ·rw[hin]at k5;cases k5
     ·exact⟨k5,k3⟩
     ·exact absurd k5 hcl
end Go.Proofs.YtblkkhfdeaaidaaGreatDoor

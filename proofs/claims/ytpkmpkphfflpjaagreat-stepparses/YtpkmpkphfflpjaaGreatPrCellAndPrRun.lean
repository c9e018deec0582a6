import Derived.Test.YtpkmpkphfflpjaaGreatLRUseAndPrSmall
import Derived.BigQuiet
import Derived.Deep.DeepCutAuto
import Derived.Test.YtpkmpkphfflpjaaGreatTab6AndRowI
import Derived.Laws.AppendOwnNone
set_option maxHeartbeats 6400000
set_option maxRecDepth 100000
namespace Go.Proofs.YtpkmpkphfflpjaaGreat
open Go.RowKit
theorem ae7{w0 w:World}{d:qO}{sv:Value}{PL:List Pl}{p q k tp nt:Nat}{R:List Ru}{tok:List Int}{C:List (List Ce)}{G:List (List Int)}(h:bN w0 d sv PL p q w)(E:zY w0 d R tok C G)(hk:PL.length=k+1)(hl:k<=10000)(hs:(PL.getD k fZ).1=tp)(htp:tp<C.length)(hnt:nt<(C.getD tp []).length)
 (hlt:p<tok.length->tok.getD p 0=(nt:Int)) (hge:¬p<tok.length->d.T=nt) {sh:Int} {nU:List Int} {en:Bool} (hce:(C.getD tp []).getD nt (0,[],false)=(sh,nU,en)):
 Calls Tryz.prog 19 #[.pointer (some ⟨d.ra,0,none⟩)] w fun e w'=> ∃rl,e= .returned (.agg #[.int .i64 sh,rl,.bool en])/\aH w' w'.heap.size rl nU/\Below w.heap.size w w':=by
 have hR:=h.alloc (.cells #[.int .i64 0,.slice none 0 0,.bool false] 67);obtain⟨W1,hW1⟩:∃W,w.alloc (.cells #[.int .i64 0,.slice none 0 0,.bool false] 67)=W:=⟨_,rfl⟩;have hB1:Below w.heap.size w W1:=by rw[<-hW1];exact(Below.refl _ _).alloc (Nat.le_refl _) _
 have r0:W1.cell? ⟨w.heap.size,0,none⟩=some (.int .i64 0):=by rw[<-hW1];simp[go_sem]
 have r1:W1.cell? ⟨w.heap.size,1,none⟩=some (.slice none 0 0):=by rw[<-hW1];simp[go_sem]
 have r2:W1.cell? ⟨w.heap.size,2,none⟩=some (.bool false):=by rw[<-hW1];simp[go_sem]
 have rf:∀o,W1.frozen? ⟨w.heap.size,o,none⟩=false:=fun o=>by rw[<-hW1];simp[go_sem]
 have hs1:W1.heap.size=w.heap.size+1:=by rw[<-hW1];simp
 rw[hW1]at hR;have HB1:Hid (Below w.heap.size w W1):=hB1;have HZ:Hid (Below w0.heap.size w0 w):=h.since;have HM:Hid (bN w0 d sv PL p q W1):=hR;have HE:Hid (zY w0 d R tok C G):=E;obtain⟨ta,tc,jS⟩:=E.toks.1;obtain⟨ca,cc,hcv⟩:=E.tab.cells.1;have c0:=(hR.cell (i:=0) rfl).1;have c3:=(hR.cell (i:=3) rfl).1;have c5:=(hR.cell (i:=5) rfl).1;have c6:=(hR.cell (i:=6) rfl).1;rw[jS]at c5;rw[hcv]at c3;have HTv:Hid (d.tv= .slice ta tok.length tc):=jS;have EL:Hid (d.cv= .slice ca C.length cc):=hcv;have WK:Hid (nt<(C.getD tp []).length):=hnt;have J4:Hid ((C.getD tp []).getD nt (0,[],false)=(sh,nU,en)):=hce;have HLt:Hid (p<tok.length->tok.getD p 0=(nt:Int)):=hlt;obtain⟨x3,hx3⟩:∃x,(PL.getD k fZ).2.1=x:=⟨_,rfl⟩;have WL:Hid (∀wq,Below W1.heap.size W1 wq->Calls Tryz.prog 20 #[.pointer (some ⟨d.ra,0,none⟩)] wq fun e w'=>e= .returned (.agg #[.int .i64 tp,x3])/\Below wq.heap.size wq w'):=fun wq hq=>O3 (hR.below hq) hk hl hs hx3
 have oI:Hid (∃a n c,x3= .slice a n c):=by
  obtain⟨a,c,e⟩:=(hR.CB (i:=k) (by omega)).slice;exact⟨a,_,c,by rw[<-hx3,e]⟩
 clear h E hk hs hR jS hcv hnt hce hlt hx3 hB1;obtain⟨rb,hrb⟩:∃rb,d.ra=rb:=⟨_,rfl⟩;rw[hrb]at c0 c3 c5 c6 WL⊢;obtain⟨dT,WM⟩:∃x,d.T=x:=⟨_,rfl⟩;rw[WM]at c0 hge;clear hrb WM
 go_enter Tryz.func19,Tryz.ntmps19
 go_upto_region 2 with fail
 clear hW1;have p0:(0:Int)<=(p:Int):=Int.natCast_nonneg _;by_cases hpt:p<tok.length
 case' pos=>
  obtain⟨tb',to',tc',hte,_,x1⟩:=(HE.out.toks.below HM.out.since).2 p hpt;rw[HTv.out]at hte;injection hte with h5 _ h6;subst h5;subst h6;rw[HLt.out hpt]at x1;have p1:(p:Int)<(tok.length:Int):=by omega
  go_big_quiet (fail)
  generalize nq=q1
  go_wp2_with fail
  go_big_quiet (fail)
  go_wp2_with fail
  obtain⟨W2,hW2⟩:∃W,(W1.drewN q1).drewN nq=W:=⟨_,rfl⟩;have hB2:Below W1.heap.size W1 W2.drew:=by rw[<-hW2];exact(below_drewN (below_drewN (Below.refl _ _) _) _).drew
  rw[hW2];clear x1 p1
 case' neg=>
  have p1:decide ((p:Int)<(tok.length:Int))=false:=decide_eq_false (by omega);have xZ:=(hge hpt).symm;subst xZ
  go_big_quiet (fail)
  go_wp2_with fail
  obtain⟨W2,hW2⟩:∃W,W1.drewN nq=W:=⟨_,rfl⟩;have hB2:Below W1.heap.size W1 W2.drew:=by rw[<-hW2];exact(below_drewN (Below.refl _ _) _).drew
  rw[hW2];clear p1
 all_goals
  clear hW2;obtain⟨cb,co,cc',rk,hcv,k1,hrow⟩:=HE.out.tab.cells.2 tp htp;rw[EL.out]at hcv;injection hcv with hca _ hcc;subst hca;subst hcc;obtain⟨J5,J6,Tj,rl,vM,k2,k3,k4,k5⟩:=hrow.2 nt WK.out;rw[J4.out]at k2 k4 k5;simp only at k2 k4 k5;obtain⟨ua,uc,hrl⟩:=k4.1;have hn1:=WK.out;obtain⟨m2,hm2⟩:∃m2,nU.length=m2:=⟨_,rfl⟩;obtain⟨rn,hrn⟩:∃x,(C.getD tp []).length=x:=⟨_,rfl⟩;rw[hm2]at hrl;rw[hrn]at vM hn1;subst hrl;subst vM;obtain⟨xa,xn,xc,rfl⟩:=oI.out;have yS:Hid (aH w0 w0.heap.size (.slice ua m2 uc) nU):=k4;have HB2:Hid (Below W1.heap.size W1 W2.drew):=hB2;have la:=WL.out W2.drew hB2;have c3':W2.drew.cell? ⟨rb,3,none⟩=some (.slice (some ⟨cb,co,none⟩) C.length cc):=(hB2.cell (World.block_lt_of_cell? _ _ c3)).trans c3
  have O5:Hid (∀wq,Below W2.drew.heap.size W2.drew wq->wq.cell? ⟨rb,3,none⟩=some (.slice (some ⟨cb,co,none⟩) C.length cc)/\wq.cell? ⟨cb,co+tp,none⟩=some (.slice (some ⟨J5,J6,none⟩) rn Tj)/\wq.cell? ⟨J5,J6+nt*3,none⟩=some (.int .i64 sh)/\wq.cell? ⟨J5,J6+nt*3+1,none⟩=some (.slice ua m2 uc)/\wq.cell? ⟨J5,J6+nt*3+2,none⟩=some (.bool en)/\
   wq.cell? ⟨w.heap.size,0,none⟩=some (.int .i64 0)/\wq.cell? ⟨w.heap.size,1,none⟩=some (.slice none 0 0)/\wq.cell? ⟨w.heap.size,2,none⟩=some (.bool false)/\(∀o,wq.frozen? ⟨w.heap.size,o,none⟩=false)/\w.heap.size<wq.heap.size):=fun wq hq=>by
   have hb:Below W1.heap.size W1 wq:=HB2.out.trans (hq.mono HB2.out.size);have hz:Below w0.heap.size w0 wq:=HM.out.since.trans (hb.mono HM.out.le)
   exact⟨(hq.cell (World.block_lt_of_cell? _ _ c3')).trans c3',(hz.cell (World.block_lt_of_cell? _ _ k1)).trans k1,(hz.cell (World.block_lt_of_cell? _ _ k2)).trans k2,(hz.cell (World.block_lt_of_cell? _ _ k3)).trans k3,(hz.cell (World.block_lt_of_cell? _ _ k5)).trans k5,
    (hb.cell (by simp only;omega)).trans r0,(hb.cell (by simp only;omega)).trans r1,(hb.cell (by simp only;omega)).trans r2,fun o=>(hb.frozen (by simp only;omega)).trans (rf o),by have:=hb.size;omega⟩
  have j0:(0:Int)<=(tp:Int):=Int.natCast_nonneg _;have j1:(tp:Int)<(C.length:Int):=by omega
  have l0:(0:Int)<=(nt:Int):=Int.natCast_nonneg _;have l1:(nt:Int)<(rn:Int):=by omega
  clear hB2 k1 k2 k3 k4 k5 hrow hm2 hrn hn1 c0 c3 c5 c6 r0 r1 r2 rf;refine F9 [0,1,2,3,4,5,10] [6,7,8,9,11,12,13] 13 (fun w'=>w'.cell? ⟨rb,3,none⟩=some (.slice (some ⟨cb,co,none⟩) C.length cc)) (by kernel_rfl) (by kernel_rfl) c3' ?_
  iterate 7
   refine aU.rQ (v:= ?_) rfl (by rfl) ?_ ?_;rotate_left
   ·intro w' hSw
    go_simp
    try with_reducible rfl
   simp only[Act.put,List.setIfInBounds_toArray,List.set_cons_zero,List.set_cons_succ]
  rw[aU];refine dQ.rQ rfl (fun K hK=> ?_)
  go_simp
  refine la.mono ?_;rintro e w5 ⟨rfl,ay⟩;dsimp only;have bV:Hid (Below W2.drew.heap.size W2.drew w5):=ay;obtain⟨m3,m4,m5,m6,m7,m8,m9,m10,m11,m12⟩:=O5.out w5 ay;have f0:=m11 0;have f1:=m11 1;have f2:=m11 2;refine hK.out _ _ (fun _=>m3) ?_;clear hK la ay c3' m11;refine dQ.rQ rfl (fun K hK=> ?_)
  go_simp
  refine hK.out _ _ (fun _=>m3) ?_;clear hK;refine dQ.rQ rfl (fun K hK=> ?_)
  go_simp
  refine hK.out _ _ (fun _=>m3) ?_;clear hK;refine dQ.rQ rfl (fun K hK=> ?_)
  go_simp
  refine hK.out _ _ (fun _=>m3) ?_;clear hK;refine dQ.rQ rfl (fun K hK=> ?_)
  go_simp
  refine hK.out _ _ (fun _=>m3) ?_;clear hK;refine dQ.rQ rfl (fun K hK=> ?_)
  go_simp
  refine hK.out _ _ (fun _=>m3) ?_;clear hK;refine dQ.rQ rfl (fun K hK=> ?_)
  go_simp
  refine hK.out _ _ (fun h=>absurd h (by omega)) ?_;clear hK;rw[dQ];refine NoPanic.normal ?_
  have WN:Hid (Below w.heap.size w (((w5.setCell ⟨w.heap.size,0,none⟩ (.int .i64 sh)).setCell ⟨w.heap.size,1,none⟩ (.slice ua m2 uc)).setCell ⟨w.heap.size,2,none⟩ (.bool en))):=
   ((((HB1.out.trans (HB2.out.mono (by omega))).trans (bV.out.mono (by have:=HB2.out.size;omega))).setCell (by simp) _).setCell (by simp) _).setCell (by simp) _
  go_wp2_with fail
  refine bodyPost_ret (v:= .agg #[.int .i64 sh,.slice ua m2 uc,.bool en]) (by simp[results,Tryz.results19,go_sem,m8,m9,m10]) rfl ⟨_,rfl,?_,WN.out⟩;have hz:=HZ.out.trans (WN.out.mono HZ.out.size);exact(yS.out.below hz).mono hz.size
theorem ae8{la:Option Addr}{f n sl lc:Nat}(hs:sl=f+n):∃A,(∀w:World,Sem.run Tryz.prog (Instr.sliceAt 50 (.slice la sl lc) (some (.int .i64 f)) none none) w= .ok (.slice A n (lc-f)) w)/\(lc≠f->A=la.map (·.add (f*2))):=by
 have h0:(0:Int)<=(f:Int):=Int.natCast_nonneg _;have h1:(f:Int)<=(sl:Int):=by omega
 have h2:sl-f=n:=by omega
 refine⟨if lc=f then la else la.map (·.add (f*2)),fun w=> ?_,fun h=>by rw[if_neg h]⟩
 go_simp
 intro h;omega
theorem ae9{g f sl lc:Nat}(hu:f<=lc)(w:World):Sem.run Tryz.prog (Instr.sliceAt 50 (.slice (some ⟨g,0,none⟩) sl lc) none (some (.int .i64 f)) none) w= .ok (.slice (some ⟨g,0,none⟩) f lc) w:=by
 have h0:(0:Int)<=(f:Int):=Int.natCast_nonneg _;have h1:(f:Int)<=(lc:Int):=by omega
 go_simp
def kL(m:Int)(PL:List Pl)(f i:Nat):List Int:=m::(((PL.drop f).take i).map fun x=>x.2.2).flatten
theorem afa{m:Int}{PL:List Pl}{f i:Nat}(h:f+i<PL.length):kL m PL f (i+1)=kL m PL f i++(PL.getD (f+i) fZ).2.2:=by
 unfold kL;have hi:i<(PL.drop f).length:=by rw[List.length_drop];omega
 rw[List.take_succ_eq_append_getElem hi,List.map_append,List.flatten_append];have e:(PL.drop f)[i]=PL.getD (f+i) fZ:=by simp[List.getD,h]
 rw[e];simp
theorem WO{m:Int}{PL:List Pl}{f i:Nat}{c:Nat}(h:((PL.map fun x=>x.2.2).map List.length).sum<=c):(kL m PL f i).length<=c+1:=by
 unfold kL;rw[List.length_cons,List.length_flatten]
 have e:((((PL.drop f).take i).map fun x=>x.2.2).map List.length).sum<=((PL.map fun x=>x.2.2).map List.length).sum:=by
  have h1:((PL.map fun x=>x.2.2).map List.length).sum=(((PL.take f).map fun x=>x.2.2).map List.length).sum+(((PL.drop f).map fun x=>x.2.2).map List.length).sum:=by
   rw[<-List.sum_append,<-List.map_append,<-List.map_append,List.take_append_drop]
  have h2:(((PL.drop f).map fun x=>x.2.2).map List.length).sum=((((PL.drop f).take i).map fun x=>x.2.2).map List.length).sum+((((PL.drop f).drop i).map fun x=>x.2.2).map List.length).sum:=by
   rw[<-List.sum_append,<-List.map_append,<-List.map_append,List.take_append_drop]
  omega
 omega
theorem afb{w0 w:World}{d:qO}{sv:Value}{PL:List Pl}{p q:Nat}{R:List Ru}{tok:List Int}{C:List (List Ce)}{G:List (List Int)}(h:bN w0 d sv PL p q w)(E:zY w0 d R tok C G){m kp rl Lf qs gg:Nat}(hm:m<R.length)(hL:(R.getD m (0,[])).1=(Lf:Int))(hrl:(R.getD m (0,[])).2.length=rl)(hPL:PL.length=kp+1+rl)(hl:PL.length<=10000)(hq:q<=10000)(hsum:((PL.map fun x=>x.2.2).map List.length).sum<=10000)
 (zZ:(PL.getD kp fZ).1=qs) (WQ:qs<G.length) (WR:Lf<(G.getD qs []).length) (hgg:(G.getD qs []).getD Lf 0=(gg:Int)):
 Calls Tryz.prog 22 #[.pointer (some ⟨d.ra,0,none⟩),.int .i64 m] w fun e w'=>e= .returned (.tuple #[])/\∃dz dv,bN w0 d dz (PL.take (kp+1)++[(gg,dv,(m:Int)::((PL.drop (kp+1)).map fun x=>x.2.2).flatten)]) p (q+1) w':=by
 obtain⟨g,cap,hsv,hg,hcap⟩:=h.form (by omega);obtain⟨sl,hsl⟩:∃n,PL.length=n:=⟨_,rfl⟩;rw[hsl]at hsv hcap hl;subst hsv;obtain⟨f,hf⟩:∃f,kp+1=f:=⟨_,rfl⟩;have WS:sl=f+rl:=by omega
 obtain⟨rb,ro,rc,qa,qc,bW,hrb,z1,z2,hqc,_⟩:=(E.rules.below h.since).2 m hm;obtain⟨ru,afc⟩:∃x,R.getD m (0,[])=x:=⟨_,rfl⟩;rw[hL]at z1;rw[hrl]at z2;rw[<-Nat.add_assoc]at z2;have c2:=(h.cell (i:=2) rfl).1;rw[bW]at c2;have v0:(0:Int)<=(m:Int):=Int.natCast_nonneg _;have v1:(m:Int)<(R.length:Int):=by omega
 have hfr:IntKind.i64.wrap ((sl:Int)-(rl:Int))=(f:Int):=by rw[IntWalk.i64_in _ (by omega)];omega
 have HM:Hid (bN w0 d (.slice (some ⟨g,0,none⟩) sl cap) PL p q w):=h;have HE:Hid (zY w0 d R tok C G):=E;have HRv:Hid (d.rv= .slice (some ⟨rb,ro,none⟩) R.length rc):=bW;have CF:Hid (PL.length=sl):=hsl;have HF:Hid (kp+1=f):=hf;have WU:Hid (((PL.map fun x=>x.2.2).map List.length).sum<=10000):=hsum;have HQs:Hid ((PL.getD kp fZ).1=qs):=zZ;have FR:Hid (qs<G.length/\Lf<(G.getD qs []).length/\(G.getD qs []).getD Lf 0=(gg:Int)):=⟨WQ,WR,hgg⟩;have wG:Hid (sl=f+rl):=WS;have afS:rl<=10000:=by omega
 have c8:=(h.cell (i:=8) rfl).1;have hra:=h.lt.1;have hB0:w.heap.size<=w.heap.size:=Nat.le_refl _;obtain⟨qP,O6⟩:∃x,d.ra=x:=⟨_,rfl⟩;have mM:Hid (d.ra=qP):=O6;rw[O6]at c2 c8 hra⊢;clear h E bW hsl hf hsum zZ WQ WR hgg WS afc hL hrl hPL O6 hm hrb hqc
 go_enter Tryz.func22,Tryz.ntmps22
 go_upto_region 1 with fail
 obtain⟨W1,hW1⟩:∃W,w.alloc (.cells #[.int .i64 Lf,.slice qa rl qc] 79)=W:=⟨_,rfl⟩;have hM1:=HM.out.alloc (.cells #[.int .i64 Lf,.slice qa rl qc] 79);have b0:W1.cell? ⟨w.heap.size,0,none⟩=some (.int .i64 Lf):=by rw[<-hW1];simp[go_sem]
 have b1:W1.cell? ⟨w.heap.size,1,none⟩=some (.slice qa rl qc):=by rw[<-hW1];simp[go_sem]
 rw[hW1]at hM1⊢;have J3:=(hM1.cell (i:=8) rfl).1;rw[mM.out]at J3;have qz:Hid (bN w0 d (.slice (some ⟨g,0,none⟩) sl cap) PL p q W1):=hM1;clear hW1 hM1 c2 c8 z1 z2 v0 v1
 go_big_quiet (fail)
 obtain⟨W2,hW2⟩:∃W,W1.drewN nq=W:=⟨_,rfl⟩;have hB2:Below W1.heap.size W1 W2:=by rw[<-hW2];exact below_drewN (Below.refl _ _) _
 rw[hW2];have jL:Hid (bN w0 d (.slice (some ⟨g,0,none⟩) sl cap) PL p q W2):=qz.out.below hB2;have e0:=(hB2.cell (World.block_lt_of_cell? _ _ b0)).trans b0;have WV:Hid (W2.cell? ⟨w.heap.size,0,none⟩=some (.int .i64 Lf)):=e0
 have c8:(W2.alloc (.cells #[.int .i64 m] 3)).cell? ⟨qP,8,none⟩=some (.slice (some ⟨g,0,none⟩) sl cap):=by
  have:=((jL.out.alloc (.cells #[.int .i64 m] 3)).cell (i:=8) rfl).1;rw[mM.out]at this;exact this
 obtain⟨A,hA,hA'⟩:=ae8 (la:=some ⟨g,0,none⟩) (lc:=cap) wG.out;have zo:Hid (cap≠f->A=(some (⟨g,0,none⟩:Addr)).map (·.add (f*2))):=hA'
 have xX:Hid ((W2.alloc (.cells #[.int .i64 m] 3)).ownsRow W2.heap.size 3 1 (.slice (some ⟨W2.heap.size,0,none⟩) 1 1) 1 [.int .i64 m]):=by
  have:=World.ownsRow_lit (base:=W2.heap.size) (e:=3) (size:=1) W2 #[.int .i64 m] 1 (Nat.le_refl _) (by unfold maxLen;omega) rfl;exact this
 clear hW2 hB2 b0 b1 J3 hA' e0 qz
 go_wp2_with fail
 clear c8 hA hfr
 go_loopw [6,36] (fun s6 s36 wr=> ∃(i gd cd:Nat),s6= .slice (some ⟨gd,0,none⟩) (kL m PL f i).length cd/\s36= .int .i64 i/\i<=rl/\wr.ownsRow W2.heap.size 3 1 (.slice (some ⟨gd,0,none⟩) (kL m PL f i).length cd) (kL m PL f i).length ((kL m PL f i).map (Value.int .i64))/\Below W2.heap.size W2 wr) (fun _ s _=>rl-(intOf s).toNat)
 case atStart=>exact⟨0,W2.heap.size,1,rfl,rfl,Nat.zero_le _,xX.out,(Below.refl _ _).alloc (Nat.le_refl _) _⟩
 case round=>
  clear xX;obtain⟨i,gd,cd,rfl,rfl,hi,hown,hB⟩:=hrel;have HB:Hid (Below W2.heap.size W2 wr):=hB;obtain⟨dl,hdl⟩:∃n,(kL m PL f i).length=n:=⟨_,rfl⟩;rw[hdl]at hown⊢;have afT:dl<=10001:=by rw[<-hdl];exact WO WU.out
  have yw:Hid ((kL m PL f i).length=dl):=hdl;have qZ:Hid (wr.ownsRow W2.heap.size 3 1 (.slice (some ⟨gd,0,none⟩) dl cd) dl ((kL m PL f i).map (Value.int .i64))):=hown;have yx:=jL.out.below hB;have sJ:Hid (bN w0 d (.slice (some ⟨g,0,none⟩) sl cap) PL p q wr):=yx;clear hB hown hdl;by_cases hlt:i<rl
  ·have hcf:cap≠f:=by have:=wG.out;omega
   have zH:=zo.out hcf;simp only[Option.map_some,Addr.add_lit,Nat.zero_add]at zH;subst zH;have hfi:f+i<PL.length:=by rw[CF.out,wG.out];omega
   obtain⟨c0,c1⟩:=yx.place (by rw[CF.out]) (i:=f+i) hfi;have hdv:=yx.CB (i:=f+i) hfi;have hsu:=afa (m:=(m:Int)) hfi;have hle:=WO (m:=(m:Int)) (f:=f) (i:=i+1) WU.out;obtain⟨⟨s,dv,D⟩,hpl⟩:∃x,PL.getD (f+i) fZ=x:=⟨_,rfl⟩;rw[hpl]at c0 c1 hdv hsu;simp only at c0 c1 hdv hsu;rw[Nat.add_mul]at c0 c1;have Bl:Hid (kL m PL f (i+1)=kL m PL f i++D):=hsu;have hDl:dl+D.length<=10001:=by rw[hsu,List.length_append,yw.out]at hle;exact hle
   have i0:(0:Int)<=(i:Int):=Int.natCast_nonneg _;have i1:(i:Int)<(rl:Int):=by omega
   obtain⟨rZ,hi0,hz0,hz1,hz2⟩:=info_parts Tryz.infoInt;clear yx hpl hsu hle;rcases hdv with⟨rfl,rfl⟩|⟨hD0,b,c,rfl,_,hbl,_,hcl⟩
   ·have bX:=qZ.out.alloc (.cells #[.int .i64 s,.slice none 0 0] 49)
    have bV:Hid (Below W2.heap.size W2 (wr.alloc (.cells #[.int .i64 s,.slice none 0 0] 49))):=HB.out.alloc HB.out.size _
    go_wp2_with
     (at_builtin
      refine wpList_append_own_none rfl _ _ _ rfl W2.heap.size 3 rZ 1 Tryz.underlying27 hi0 (.slice (some ⟨gd,0,none⟩) dl cd) dl ((kL m PL f i).map (Value.int .i64)) rfl bX rfl ?_)
    go_roundw
    case rel=>
     have e:=Bl.out;rw[List.append_nil]at e;exact⟨i+1,gd,cd,by rw[e,yw.out],by go_num,by omega,by rw[e,yw.out];exact bX,bV.out⟩
    case measure=>simp[intOf];omega
   ·have bX:=qZ.out.alloc (.cells #[.int .i64 s,.slice (some ⟨b,0,none⟩) D.length c] 49)
    have ay:Below W2.heap.size W2 (wr.alloc (.cells #[.int .i64 s,.slice (some ⟨b,0,none⟩) D.length c] 49)):=HB.out.alloc HB.out.size _;have bV:Hid (Below W2.heap.size W2 (wr.alloc (.cells #[.int .i64 s,.slice (some ⟨b,0,none⟩) D.length c] 49))):=ay;have hsz5:=ay.size
    have hnw:∀j u,(D.map (Value.int .i64))[j]?=some u->(wr.alloc (.cells #[.int .i64 s,.slice (some ⟨b,0,none⟩) D.length c] 49)).cell? ((⟨b,0,none⟩:Addr).add j)=some u:=fun j u hj=>by
     have hjl:=(List.getElem?_eq_some_iff.1 hj).1;simp only[List.length_map]at hjl;rw[Addr.add_lit,Nat.zero_add,World.cell?_alloc_past _ _ _ hbl,hcl j hjl,<-hj];simp[List.getD,hjl]
    have hone:∀u∈D.map (Value.int .i64),u.oneCell'=true:=fun u hu=>by
     obtain⟨n,_,rfl⟩:=List.mem_map.1 hu;rfl
    have n1:dl+D.length<=maxLen:=by unfold maxLen;omega
    have n2:(dl+D.length)*8<=140737488355328:=by omega
    have nl:(D.map (Value.int .i64)).length=D.length*1:=by simp
    clear ay hcl
    go_wp2_with
     (at_builtin
      refine wpList_append_lies _ rfl _ _ _ rfl W2.heap.size 3 rZ _ 1 8 Tryz.underlying27 hi0 hz0 hz1 hz2 rfl (by omega) (.slice (some ⟨gd,0,none⟩) dl cd) dl ((kL m PL f i).map (Value.int .i64)) rfl bX ⟨b,0,none⟩ D.length c (D.map (Value.int .i64)) rfl nl hnw hone hD0 n1 n2 hsz5 (wr.heap.size+1) (by simp) ?_
      intro g6 cap6 w6 hown6 fF o6 uq)
    go_roundw
    case rel=>
     refine⟨i+1,g6,cap6,by rw[Bl.out,List.length_append,yw.out],by go_num,by omega,by rw[Bl.out,List.length_append,yw.out,List.map_append];exact hown6,bV.out.grown fF bV.out.size fun k hk=>(bX.lt k hk).1⟩
    case measure=>simp[intOf];omega
  ·obtain rfl:i=rl:=by omega
   have WW:Hid (kL m PL f i=(m:Int)::((PL.drop f).map fun x=>x.2.2).flatten):=by
    show kL m PL f i=_;unfold kL;rw[List.take_of_length_le (by rw[List.length_drop,CF.out,wG.out];omega)]
   have Ct:f<=cap:=by have:=wG.out;omega
   have c8:=(yx.cell (i:=8) rfl).1;have J2:=(yx.cell (i:=8) rfl).2;rw[mM.out]at c8 J2;have hup:=fun w=>ae9 (g:=g) (sl:=sl) Ct w;have O7:=yx.cut (g:=g) (cap:=cap) (n:=f) (by rw[CF.out]) (by rw[CF.out,wG.out];omega);rw[mM.out]at O7;have BP:Hid (bN w0 d (.slice (some ⟨g,0,none⟩) f cap) (PL.take f) p q (wr.setCell ⟨qP,8,none⟩ (.slice (some ⟨g,0,none⟩) f cap))):=O7;clear yx O7
   go_upto_region 9 with fail
   obtain⟨W4,gD⟩:∃W,wr.setCell ⟨qP,8,none⟩ (.slice (some ⟨g,0,none⟩) f cap)=W:=⟨_,rfl⟩;have afd:wr.heap.size=W4.heap.size:=by rw[<-gD];simp
   have WX:∀b,b≠qP->W4.heap[b]?=wr.heap[b]?:=fun b hb=>by rw[<-gD];exact Below.heap_setCell _ _ _ _ hb
   have HDv:Hid (qN W4 (fun b=>W2.heap.size<=b) (.slice (some ⟨gd,0,none⟩) dl cd) (kL m PL f i)):=by
    refine .inr ⟨by rw[WW.out];simp,gd,cd,by rw[yw.out],(qZ.out.lt gd rfl).1,by rw[<-afd];exact(qZ.out.lt gd rfl).2,?_,fun j hj=> ?_⟩
    ·rcases qZ.out.2 with⟨h0,_⟩|⟨g',cap',cur',hg',_,_,hle,_⟩
     ·cases h0
     ·injection hg' with _ _ e3;rw[yw.out];omega
    have hgr:gd≠qP:=fun e=>by
     have h1:=(qZ.out.lt gd rfl).1;have h2:=jL.out.lt.1;rw[mM.out]at h2;omega
    rw[World.cell?_of_block (w:=wr) (a:=⟨gd,j,none⟩) (WX gd hgr),qZ.out.cellAt j (by rw[<-yw.out];omega)];simp[List.getD,hj]
   rw[gD]at BP⊢;have sP:Hid (bN w0 d (.slice (some ⟨g,0,none⟩) f cap) (PL.take f) p q W4.drew):=BP.out.drew
   have hbx:W4.drew.cell? ⟨w.heap.size,0,none⟩=some (.int .i64 Lf):=by
    have h1:=(HB.out.cell (World.block_lt_of_cell? _ _ WV.out)).trans WV.out;have hgr:w.heap.size≠qP:=by omega
    exact(World.cell?_of_block (w:=wr) (a:=⟨w.heap.size,0,none⟩) (WX _ hgr)).trans h1
   have hl4:(PL.take f).length=kp+1:=by rw[List.length_take,CF.out,wG.out,<-HF.out];omega
   have hq4:((PL.take f).getD kp fZ).1=qs:=by rw[<-HQs.out];simp[List.getD,<-HF.out]
   obtain⟨xv,hxv⟩:∃x,((PL.take f).getD kp fZ).2.1=x:=⟨_,rfl⟩;have la:=O3 sP.out hl4 (by have:=wG.out;have:=HF.out;omega) hq4 hxv
   obtain⟨xa,xn,xc,afe⟩:∃a n c,xv= .slice a n c:=by
    obtain⟨a,c,e⟩:=(sP.out.CB (i:=kp) (by rw[hl4];omega)).slice;exact⟨a,_,c,by rw[<-hxv,e]⟩
   subst afe;rw[mM.out]at la;have c4:=(sP.out.cell (i:=4) rfl).1;rw[mM.out]at c4;obtain⟨yb,yo,yc,rk,hyv,k1,hrow⟩:=HE.out.tab.goto.2 qs FR.out.1;obtain⟨ub,uo,uc,vM,_,k2⟩:=hrow.2 Lf FR.out.2.1;rw[FR.out.2.2]at k2;rw[hyv]at c4;subst vM;obtain⟨rn,hrn⟩:∃x,(G.getD qs []).length=x:=⟨_,rfl⟩;rw[hrn]at k1
   have O5:Hid (∀wq,Below W4.drew.heap.size W4.drew wq->(wq.cell? ⟨qP,4,none⟩=some (.slice (some ⟨yb,yo,none⟩) G.length yc)/\wq.cell? ⟨w.heap.size,0,none⟩=some (.int .i64 Lf))/\wq.cell? ⟨yb,yo+qs,none⟩=some (.slice (some ⟨ub,uo,none⟩) rn uc)/\wq.cell? ⟨ub,uo+Lf,none⟩=some (.int .i64 gg)):=fun wq hq=>by
    have hz:Below w0.heap.size w0 wq:=sP.out.since.trans (hq.mono sP.out.le);exact⟨⟨(hq.cell (World.block_lt_of_cell? _ _ c4)).trans c4,(hq.cell (World.block_lt_of_cell? _ _ hbx)).trans hbx⟩,(hz.cell (World.block_lt_of_cell? _ _ k1)).trans k1,(hz.cell (World.block_lt_of_cell? _ _ k2)).trans k2⟩
   have j0:(0:Int)<=(qs:Int):=Int.natCast_nonneg _;have j1:(qs:Int)<(G.length:Int):=by have:=FR.out.1;omega
   have l0:(0:Int)<=(Lf:Int):=Int.natCast_nonneg _;have l1:(Lf:Int)<(rn:Int):=by have:=FR.out.2.1;rw[hrn]at this;omega
   clear gD c8 J2 hup k1 k2 hrow hyv hrn hxv hq4;refine F9 [0,1,2,3,4,5,10,11] [6,7,8,9,12,13,14] 14 (fun w'=>w'.cell? ⟨qP,4,none⟩=some (.slice (some ⟨yb,yo,none⟩) G.length yc)/\w'.cell? ⟨w.heap.size,0,none⟩=some (.int .i64 Lf)) (by kernel_rfl) (by kernel_rfl) ⟨c4,hbx⟩ ?_
   iterate 8
    refine aU.rQ (v:= ?_) rfl (by rfl) ?_ ?_;rotate_left
    ·intro w' hSw
     obtain⟨afU,afV⟩:=hSw
     go_simp
     try with_reducible rfl
    simp only[Act.put,List.setIfInBounds_toArray,List.set_cons_zero,List.set_cons_succ]
   rw[aU];refine dQ.rQ rfl (fun K hK=> ?_)
   go_simp
   refine la.mono ?_;rintro e w5 ⟨rfl,ay⟩;dsimp only;have bV:Hid (Below W4.drew.heap.size W4.drew w5):=ay;obtain⟨⟨m3,m4⟩,m5,m6⟩:=O5.out w5 ay;refine hK.out _ _ (fun _=>⟨m3,m4⟩) ?_;clear hK la ay c4 hbx
   iterate 6
    refine dQ.rQ rfl (fun K hK=> ?_)
    go_simp
    refine hK.out _ _ (fun _=>⟨m3,m4⟩) ?_;clear hK
   rw[dQ];refine NoPanic.normal ?_;clear m3 m4 m5 m6;have hlf:(PL.take f).length=f:=hl4.trans HF.out;have h5:=sP.out.below bV.out;have h6:=h5.alloc (.cells #[.int .i64 gg,.slice (some ⟨gd,0,none⟩) dl cd] 49);have Dz:=h6.stack;rw[hlf]at Dz;have c8:=(h5.cell (i:=8) rfl).1;have d8:=(h6.cell (i:=8) rfl).1;have O4:=(h6.cell (i:=8) rfl).2;have d7:=(h6.cell (i:=7) rfl).1;have WY:=(h6.cell (i:=7) rfl).2;have FT:=h6.lt.1;have hne:some d.ra≠(Value.slice (some ⟨g,0,none⟩) f cap).ownBlock:=fun e=>h6.apart e.symm;rw[mM.out]at c8 d8 O4 d7 WY FT hne;have afW:f<=10000:=by have:=wG.out;omega
   have hn1:f+1<=maxLen:=by unfold maxLen;omega
   have hn2:(f+1)*32<=140737488355328:=by omega
   have aK:w0.heap.size<=(w5.alloc (.cells #[.int .i64 gg,.slice (some ⟨gd,0,none⟩) dl cd] 49)).heap.size:=h6.le;obtain⟨i0,hi0,hz0,hz1,hz2⟩:=info_parts Tryz.infoPl;have H6:Hid (bN w0 d (.slice (some ⟨g,0,none⟩) f cap) (PL.take f) p q (w5.alloc (.cells #[.int .i64 gg,.slice (some ⟨gd,0,none⟩) dl cd] 49))):=h6;have Jv:Hid ((PL.take f).length=f):=hlf;clear h5 h6 hl4 hlf
   go_wp2_with
    (at_builtin
     refine wpList_append_lies _ rfl _ _ _ rfl w0.heap.size 49 i0 _ 2 32 Tryz.underlying50 hi0 hz0 hz1 hz2 rfl (by omega) (.slice (some ⟨g,0,none⟩) f cap) f (jT (PL.take f)) rfl Dz ⟨w5.heap.size,0,none⟩ 1 1 [.int .i64 gg,.slice (some ⟨gd,0,none⟩) dl cd] rfl rfl (World.news_of_block (cs:= #[.int .i64 gg,.slice (some ⟨gd,0,none⟩) dl cd]) (t:=49) (fr:=(0,0)) (heap_alloc_new w5 _)) (by simp[Value.oneCell']) (by omega) hn1 hn2 aK (w5.heap.size+1) (by simp) ?_;intro g7 l7 w7 vJ gJ zR JE;have x8:=(gJ.cell_far ⟨qP,8,none⟩ FT hne).trans d8;have x8f:=(gJ.frozen_far ⟨qP,8,none⟩ FT hne).trans O4;have x7:=(gJ.cell_far ⟨qP,7,none⟩ FT hne).trans d7
     have x7f:=(gJ.frozen_far ⟨qP,7,none⟩ FT hne).trans WY)
   go_end0
   refine⟨rfl,.slice (some ⟨g7,0,none⟩) (f+1) l7,.slice (some ⟨gd,0,none⟩) dl cd,?_⟩;rw[HF.out,<-WW.out]
   have hkeep:∀b,W2.heap.size<=b->b<W4.heap.size->(w5.alloc (.cells #[.int .i64 gg,.slice (some ⟨gd,0,none⟩) dl cd] 49)).heap[b]?=W4.heap[b]?/\JZ d (.slice (some ⟨g,0,none⟩) f cap) b:=fun b hb1 hb2=>by
    have hs5:W4.heap.size<=w5.heap.size:=bV.out.size;refine⟨((heap_alloc_old w5 _ (show b<w5.heap.size by omega))).trans (bV.out.block b hb2),fun e=> ?_,fun e=> ?_⟩
    ·have:=jL.out.lt.1;omega
    ·have:=(jL.out.stack.lt g rfl).2
     simp only[Value.ownBlock,Option.some.injEq]at e;omega
   have hsz:W4.heap.size<=(w5.alloc (.cells #[.int .i64 gg,.slice (some ⟨gd,0,none⟩) dl cd] 49)).heap.size:=by
    have:W4.heap.size<=w5.heap.size:=bV.out.size;simp;omega
   have r:=H6.out.turn (dz:= .slice (some ⟨g7,0,none⟩) (f+1) l7) (lH:=PL.take f++[(gg,.slice (some ⟨gd,0,none⟩) dl cd,kL m PL f i)]) gJ (by
    have:=vJ;rw[List.length_append,Jv.out,WJ]
    exact this) (fun g' hg'=>by
    obtain rfl:g7=g':=by simpa [Value.ownBlock] using hg'
    rcases zR with h5|h5
    ·exact .inl h5
    ·exact .inr (by simpa using h5)) (fun x hx=>by
    rcases List.mem_append.1 hx with hx|hx
    ·exact H6.out.zX x hx
    ·simp only[List.mem_singleton]at hx
     subst hx
     exact HDv.out.kept hsz hkeep)
   rw[mM.out]at r;have r2:=r.ae5 (q+1);rw[mM.out]at r2;exact r2
theorem aff{s:Int}{a:Option Addr}{n c:Nat}(w:World):Sem.run Tryz.prog (Instr.field 49 (.agg #[.int .i64 s,.slice a n c]) 1) w= .ok (.slice a n c) w:=by
 unfold Instr.field asAgg
 go_simp
def dV(PL:List Pl)(p q:Nat):PC:=⟨PL.map fun x=>x.1,(PL.drop 1).map fun x=>x.2.2,p,q⟩
section
variable{PL:List Pl}{p q:Nat}
theorem afg(h:0<PL.length)(s:Nat):dV (PL++[(s,.slice none 0 0,[])]) (p+1) q=⟨(dV PL p q).S++[s],(dV PL p q).F++[[]],p+1,q⟩:=by
 unfold dV;rw[List.drop_append_of_le_length (by omega)];simp
theorem afh{kp rl gg:Nat}(h:PL.length=kp+1+rl)(dv:Value)(m:Int):
 dV (PL.take (kp+1)++[(gg,dv,m::((PL.drop (kp+1)).map fun x=>x.2.2).flatten)]) p (q+1)=⟨(dV PL p q).S.take (kp+1)++[gg],(dV PL p q).F.take kp++[m::((dV PL p q).F.drop kp).flatten],p,q+1⟩:=by
 unfold dV;have hl:(PL.take (kp+1)).length=kp+1:=by rw[List.length_take,h];omega
 rw[List.drop_append_of_le_length (by omega)];simp only[List.map_append,List.map_take,List.map_cons,List.map_nil,List.map_drop,List.drop_drop,PC.mk.injEq,true_and,List.drop_take];refine⟨?_,trivial⟩;rw[Nat.add_comm 1 kp];simp
end
structure yA(T N:Nat)(R:List Ru)(tok:List Int)(K:Nat)(w0:World)(d:qO)(sv:Value)(PL:List Pl)(p q n:Nat)(w:World):Prop where
 m:bN w0 d sv PL p q w
 inv:nE T N R (ak T N R K).1 (ak T N R K).2 tok (dV PL p q)
 sum:Sum (dV PL p q)
 fst:(PL.getD 0 fZ).2.2=[]
 num:n=(tok.length-p)+(401-q)
 few:q<=400
 run:mJ T R (cellP T N R (ak T N R K).1 (ak T N R K).2) (ig T (ak T N R K).1) tok (n+1) (dV PL p q)=mK T N R (ak T N R K).1 (ak T N R K).2 tok
 small:0<PL.length/\PL.length+n<=1000
theorem yA.next{T N:Nat}{R:List Ru}{tok:List Int}{K:Nat}{w0:World}{d:qO}{sv dz:Value}{PL lH:List Pl}{p q n p' q':Nat}{w w':World}(h:yA T N R tok K w0 d sv PL p q n w)(lr:lG T N R (ak T N R K).1 (ak T N R K).2)(je:∀t∈tok,0<=t/\t<(T:Int))
 (hst:jd T R (cellP T N R (ak T N R K).1 (ak T N R K).2) (ig T (ak T N R K).1) tok (dV PL p q)= .go (dV lH p' q')) (hq:q'<=400) (hM:bN w0 d dz lH p' q' w') (h0:(lH.getD 0 fZ).2.2=[]) (hS:0<lH.length/\lH.length<=PL.length+1):n-1<n/\yA T N R tok K w0 d dz lH p' q' (n-1) w':=by
 have hi:=h.inv.go lr je hst;have hs:=OP hst;have hp:p'<=tok.length:=hi.pos;have hp0:p<=tok.length:=h.inv.pos;have hn:=h.num;have hsm:=h.small;have wo:=h.few;have hs1:p'+q'=p+q+1/\q<=q'/\p<=p':=hs;refine⟨by omega,hM,hi,Ww hst h.sum,h0,by omega,hq,?_,by omega⟩;have hr:=h.run;rw[JV hst wo]at hr;rw[show n-1+1=n by omega];exact hr
theorem yA.total{T N:Nat}{R:List Ru}{tok:List Int}{K:Nat}{w0:World}{d:qO}{sv:Value}{PL:List Pl}{p q n:Nat}{w:World}(h:yA T N R tok K w0 d sv PL p q n w):((PL.map fun x=>x.2.2).map List.length).sum<=10000:=by
 have h1:=h.sum;have h2:=h.small.1;have h3:=h.fst;have h4:=h.few;unfold Sum dV at h1;simp only at h1;cases PL with
 |nil=>simp at h2
 |cons x L=>
  simp only[List.drop_succ_cons,List.drop_zero]at h1;have h5:x.2.2=[]:=h3;rw[List.map_cons,List.map_cons,List.sum_cons,h5,h1];simp;omega
theorem afi{w0 w:World}{d:qO}{sv:Value}{R:List Ru}{tok:List Int}{N K:Nat}(h:bN w0 d sv [fZ] 0 0 w)(E:zY w0 d R tok (fU d.T N R K) (lY d.T N R K))(hf:cO d.T N R)(hW:Whole d.T N R K)(hN:0<N)(hcl:iO (fU d.T N R K)=0)(je:∀t∈tok,0<=t/\t<(d.T:Int))(pU:tok.length<=30):
 Calls Tryz.prog 11 #[.pointer (some ⟨d.ra,0,none⟩)] w fun e w'=> ∃dv D a x,e= .returned (.tuple #[dv,.int .i64 a,.int .i64 x])/\FQ w' dv D/\(D,a,x)=JW (mK d.T N R (ak d.T N R K).1 (ak d.T N R K).2 tok)/\Below w0.heap.size w0 w':=by
 obtain⟨T,hT⟩:∃T,d.T=T:=⟨_,rfl⟩;rw[hT]at E hf hW hcl je⊢;have hlr:=OE hf hW (OV hW);have FU:Hid (lG T N R (ak T N R K).1 (ak T N R K).2):=hlr;have afX:Hid (∀k,k<K->∀t,t<=T->mG (cellP T N R (ak T N R K).1 (ak T N R K).2 k t)=true):=OT hcl;have Aa:Hid (∀t∈tok,0<=t/\t<(T:Int)):=je;have zW:Hid (Whole T N R K):=hW;have HF:Hid (cO T N R):=hf;have HE:Hid (zY w0 d R tok (fU T N R K) (lY T N R K)):=E
 have Ch:Hid (yA T N R tok K w0 d sv [fZ] 0 0 (tok.length+401) w):=by
  refine⟨h,Wt,rfl,rfl,by omega,by omega,rfl,by simp;omega⟩
 have HT:Hid (d.T=T):=hT;obtain⟨rb,hrb⟩:∃x,d.ra=x:=⟨_,rfl⟩;have mM:Hid (d.ra=rb):=hrb;rw[hrb];clear h E hf hW hcl je hlr hT hrb
 go_enter Tryz.func11,Tryz.ntmps11
 go_wp2_with fail
 go_loopg [2] (tok.length+401) (fun n s2 wr=>s2= .slice none 0 0/\∃(sv:Value) (PL:List Pl) (p q:Nat),yA T N R tok K w0 d sv PL p q n wr)
 case atStart=>exact⟨rfl,_,_,_,_,Ch.out⟩
 case round=>
  clear Ch;obtain⟨rfl,wZ,PL,p,q,lq⟩:=hrel;have iX:Hid (yA T N R tok K w0 d wZ PL p q gk wr):=lq;have wo:=lq.few;have hsm:=lq.small;have Wu:=lq.num;obtain⟨sh1,FV,O9⟩:=lq.inv.shape FU.out;have hKl:(ak T N R K).2.length=K:=zW.out;rw[hKl]at FV O9;obtain⟨k,hk⟩:∃k,PL.length=k+1:=⟨PL.length-1,by omega⟩
  have htop:ve (dV PL p q)=(PL.getD k fZ).1:=by
   unfold ve dV;simp[List.getD,hk]
  obtain⟨tp,htp⟩:∃tp,(PL.getD k fZ).1=tp:=⟨_,rfl⟩;rw[htop,htp]at FV;have hpl:p<=tok.length:=lq.inv.pos;have WZ:=Wp Aa.out p;obtain⟨nt,hnt⟩:∃nt,gL T tok p=nt:=⟨_,rfl⟩;rw[hnt]at WZ;obtain⟨⟨sh,nU,en⟩,hce⟩:∃x,cellP T N R (ak T N R K).1 (ak T N R K).2 tp nt=x:=⟨_,rfl⟩
  have Cj:=ae7 (tp:=tp) (nt:=nt) (sh:=sh) (nU:=nU) (en:=en) lq.m HE.out hk (by omega) htp (by rw[Cx];exact FV) (by rw[Cw FV,OQ];omega) (fun hpt=>by
   rw[<-hnt];unfold gL;rw[if_pos hpt];have e1:tok.getD p 0=tok[p]:=by simp[List.getD,hpt]
   have:=Aa.out tok[p] (List.getElem_mem hpt);rw[e1]
   omega) (fun hpt=>by
   rw[<-hnt,HT.out];unfold gL
   rw[if_neg hpt]) (by rw[Cw FV,WA WZ,hce])
  have hstep:jd T R (cellP T N R (ak T N R K).1 (ak T N R K).2) (ig T (ak T N R K).1) tok (dV PL p q)=nT R (ig T (ak T N R K).1) (dV PL p q) (sh,nU,en):=by
   unfold jd;rw[htop,htp];show nT R _ _ (cellP T N R _ _ tp (gL T tok p))=_;rw[hnt,hce]
  have qJ:Hid (jd T R (cellP T N R (ak T N R K).1 (ak T N R K).2) (ig T (ak T N R K).1) tok (dV PL p q)=nT R (ig T (ak T N R K).1) (dV PL p q) (sh,nU,en)):=hstep;have J4:Hid (cellP T N R (ak T N R K).1 (ak T N R K).2 tp nt=(sh,nU,en)):=hce;have afj:Hid (ve (dV PL p q)=tp):=htop.trans htp;have lS:Hid (PL.length=k+1):=hk;have V9:Hid (∀s∈(dV PL p q).S,s<K):=O9;rw[mM.out]at Cj;clear hstep hce htop htp hnt O9 sh1 lq hk;obtain⟨m2,hm2⟩:∃m2,nU.length=m2:=⟨_,rfl⟩;have jL:Hid (nU.length=m2):=hm2
  have vo:=Cj.mono (R':=fun e w'=> ∃ua uc,e= .returned (.agg #[.int .i64 sh,.slice ua m2 uc,.bool en])/\aH w' w'.heap.size (.slice ua m2 uc) nU/\Below wr.heap.size wr w') fun e w' ⟨rl,h1,h2,h3⟩=>by
   obtain⟨a,c,hrl⟩:=h2.1;rw[hm2]at hrl;subst hrl;exact⟨a,c,h1,h2,h3⟩
  clear Cj hm2;have lV:Hid (∀w5 (o:Obj),Below wr.heap.size wr w5->bN w0 d wZ PL p q (w5.alloc o)):=fun w5 o hb=>(iX.out.m.below hb).alloc o;cases en with
  |true=>
   have hfin:=iX.out.inv.fin FU.out Aa.out (d:=(dV PL p q).F.getD 0 []) (by rw[qJ.out];rfl);obtain⟨dd,hdd⟩:∃dd,(dV PL p q).F.getD 0 []=dd:=⟨_,rfl⟩;rw[hdd]at hfin
   have hdone:mK T N R (ak T N R K).1 (ak T N R K).2 tok= .done dd:=by
    rw[<-iX.out.run,mJ,if_pos (by exact wo)];simp only[qJ.out,nT,if_true];rw[hdd]
   have HDn:Hid (mK T N R (ak T N R K).1 (ak T N R K).2 tok= .done dd):=hdone
   have hk1:k=1:=by
    have:=congrArg List.length hfin.2;simp only[dV,List.length_map,List.length_drop,lS.out,List.length_singleton]at this;omega
   subst hk1
   have HD2:Hid ((PL.getD 1 fZ).2.2=dd):=by
    show (PL.getD 1 fZ).2.2=dd;have h2:=lS.out
    match PL,h2 with
    | [a,b],_=>
     have h3:=hfin.2;simp only[dV,List.drop_succ_cons,List.drop_zero,List.map_cons,List.map_nil,List.cons.injEq,and_true]at h3;exact h3
   obtain⟨x1,hx1⟩:∃x,(PL.getD 1 fZ).2.1=x:=⟨_,rfl⟩;have jZ:Hid ((PL.getD 1 fZ).2.1=x1):=hx1;obtain⟨s1,hs1⟩:∃x,(PL.getD 1 fZ).1=x:=⟨_,rfl⟩;have vQ:Hid ((PL.getD 1 fZ).1=s1):=hs1
   obtain⟨da,dn,dc,hxs⟩:∃a n c,x1= .slice a n c:=by
    obtain⟨a,c,e⟩:=(iX.out.m.CB (i:=1) (by rw[lS.out];omega)).slice;exact⟨a,_,c,by rw[<-hx1,e]⟩
   subst hxs;have hfd:=fun w=>aff (s:=(s1:Int)) (a:=da) (n:=dn) (c:=dc) w;clear hfin hdd hdone hx1 hs1
   go_wp2_with
    (first
     |(go_at_call 19;refine vo.mono ?_;rintro e w5 ⟨ua,uc,rfl,hL5,ay⟩
       have gZ:=lV.out w5 (.cells #[.int .i64 sh,.slice ua m2 uc,.bool true] 67) ay;have BA:Hid (bN w0 d wZ PL p q (w5.alloc (.cells #[.int .i64 sh,.slice ua m2 uc,.bool true] 67))):=gZ;have la:=O3 gZ lS.out (by omega) vQ.out jZ.out;rw[mM.out]at la
       clear gZ hL5 ay vo)
     |(go_at_call 20;refine la.mono ?_;rintro e w6 ⟨rfl,aK⟩
       have eT:Hid (bN w0 d wZ PL p q w6):=BA.out.below aK
       clear la aK))
   refine bodyPost_ret (v:= .tuple #[.slice da dn dc,.int .i64 (-1),.int .i64 0]) (by simp[results,Tryz.results11,go_sem]) rfl ?_;have hdv:=(eT.out.CB (i:=1) (by rw[lS.out];omega)).ae3;rw[jZ.out,HD2.out]at hdv;exact⟨_,dd,-1,0,rfl,hdv,by rw[HDn.out];rfl,eT.out.since⟩
  |false=>
   by_cases hsh:0<=sh
   ·obtain⟨sn,rfl⟩:∃sn:Nat,sh=sn:=⟨sh.toNat,by omega⟩
    have hgo:jd T R (cellP T N R (ak T N R K).1 (ak T N R K).2) (ig T (ak T N R K).1) tok (dV PL p q)= .go (dV (PL++[(sn,.slice none 0 0,[])]) (p+1) q):=by
     rw[qJ.out,afg hsm.1];unfold nT;simp only[Bool.false_eq_true,if_false,hsh,if_true,Int.toNat_natCast];rfl
    have zJ:Hid (jd T R (cellP T N R (ak T N R K).1 (ak T N R K).2) (ig T (ak T N R K).1) tok (dV PL p q)= .go (dV (PL++[(sn,.slice none 0 0,[])]) (p+1) q)):=hgo;clear hgo
    go_wp2_with
     (first
      |(go_at_call 19;refine vo.mono ?_;rintro e w5 ⟨ua,uc,rfl,hL5,ay⟩
        have Pb:=ae6 (lV.out w5 (.cells #[.int .i64 sn,.slice ua m2 uc,.bool false] 67) ay) hsm.1 (by omega) (by omega) sn;rw[mM.out]at Pb
        clear hL5 ay vo)
      |(go_at_call 21;refine Pb.mono ?_;rintro e w6 ⟨rfl,Pd,kI⟩
        have eT:Hid (bN w0 d Pd (PL++[(sn,.slice none 0 0,[])]) (p+1) q w6):=kI
        clear Pb kI))
    have hnx:=iX.out.next FU.out Aa.out zJ.out wo eT.out (by
     have:=iX.out.fst;rw[List.getD,List.getElem?_append_left hsm.1]
     exact this) (by simp)
    go_roundg (gk-1)
    case measure=>exact hnx.1
    case rel=>exact⟨rfl,_,_,_,_,hnx.2⟩
   ·have afY:decide (0<=sh)=false:=decide_eq_false hsh
    cases kE:nU with
    |nil=>
     have afk:m2=0:=by rw[<-jL.out,kE];rfl
     subst afk
     have hno:mK T N R (ak T N R K).1 (ak T N R K).2 tok= .none p:=by
      rw[<-iX.out.run,mJ,if_pos (by exact wo)];simp only[qJ.out,nT,kE,if_neg hsh];simp[dV]
     have HDn:Hid (mK T N R (ak T N R K).1 (ak T N R K).2 tok= .none p):=hno;clear hno kE
     go_wp2_with
      (go_at_call 19;refine vo.mono ?_;rintro e w5 ⟨ua,uc,rfl,hL5,ay⟩
       have gZ:=lV.out w5 (.cells #[.int .i64 sh,.slice ua 0 uc,.bool false] 67) ay;have c6:=(gZ.cell (i:=6) rfl).1;rw[mM.out]at c6;have Pe:Hid (Below w0.heap.size w0 (w5.alloc (.cells #[.int .i64 sh,.slice ua 0 uc,.bool false] 67))):=gZ.since
       clear gZ hL5 ay vo)
     go_big_quiet (fail)
     go_wp2_with fail
     refine bodyPost_ret (v:= .tuple #[.slice none 0 0,.int .i64 p,.int .i64 0]) (by simp[results,Tryz.results11,go_sem]) rfl ?_;exact⟨_,[],p,0,rfl,⟨⟨⟨_,_,rfl⟩,fun p hp=>by simp at hp⟩,_,_,_,rfl,Nat.le_refl _⟩,by rw[HDn.out];rfl,below_drewN Pe.out _⟩
    |cons q1 rest=>
     obtain⟨m,rfl,Cv,hdn⟩:=OH (T:=T) (N:=N) (R:=R) (NL:=(ak T N R K).1) (Ls:=(ak T N R K).2) (k:=tp) (t:=nt) (q:=q1) (by rw[J4.out,kE];simp);obtain⟨_,hr1,hr2,gg,hr3⟩:=iX.out.inv.red FU.out (t:=nt) (m:=m) (by rw[afj.out,J4.out,kE];simp);rw[show (ak T N R K).2.length=K from zW.out]at hr2;have vL:(dV PL p q).F.length=k:=by simp[dV,lS.out]
     rw[vL]at hr1 hr2 hr3;obtain⟨rl,hrl⟩:∃x,(R.getD m (0,[])).2.length=x:=⟨_,rfl⟩;have Xa:=HF.out.left (R.getD m (0,[])) (by simp[List.getD,Cv]);obtain⟨Lf,J7⟩:∃Lf:Nat,(R.getD m (0,[])).1=(Lf:Int):=⟨(R.getD m (0,[])).1.toNat,by omega⟩;rw[hrl]at hr1 hr2 hr3;rw[J7]at hr3 Xa;rw[Int.toNat_natCast]at hr3;obtain⟨kp,hkp⟩:∃kp,k=kp+rl:=⟨k-rl,by omega⟩;rw[hkp,show kp+rl-rl=kp by omega]at hr2 hr3
     have Pf:(dV PL p q).S.getD kp 0=(PL.getD kp fZ).1:=by
      have:kp<PL.length:=by rw[lS.out];omega
      simp[dV,List.getD,this]
     rw[Pf]at hr2 hr3;obtain⟨qs,zZ⟩:∃x,(PL.getD kp fZ).1=x:=⟨_,rfl⟩;rw[zZ]at hr2 hr3;have J8:PL.length=kp+1+rl:=by rw[lS.out];omega
     have hgo:∀dv,jd T R (cellP T N R (ak T N R K).1 (ak T N R K).2) (ig T (ak T N R K).1) tok (dV PL p q)= .go (dV (PL.take (kp+1)++[(gg,dv,(m:Int)::((PL.drop (kp+1)).map fun x=>x.2.2).flatten)]) p (q+1)):=fun dv=>by
      rw[qJ.out,kE,afh J8];unfold nT;simp only[Bool.false_eq_true,if_false,if_neg hsh];unfold Cu;simp only[Int.toNat_natCast,vL,hrl,hkp];rw[show kp+rl-rl=kp by omega,Pf,zZ,J7,Int.toNat_natCast,hr3,Int.toNat_natCast];rfl
     have zJ:Hid (∀dv,jd T R (cellP T N R (ak T N R K).1 (ak T N R K).2) (ig T (ak T N R K).1) tok (dV PL p q)= .go (dV (PL.take (kp+1)++[(gg,dv,(m:Int)::((PL.drop (kp+1)).map fun x=>x.2.2).flatten)]) p (q+1))):=hgo;have afl:m2=rest.length+1:=by rw[<-jL.out,kE];rfl
     have afZ:((m2:Int)==0)=false:=by simp;omega
     have Pg:Hid (nU=(m:Int)::rest):=kE
     have afm:Hid (∀w6,bN w0 d wZ PL p q w6->Calls Tryz.prog 22 #[.pointer (some ⟨rb,0,none⟩),.int .i64 m] w6 fun e w'=>e= .returned (.tuple #[])/\∃dz dv,bN w0 d dz (PL.take (kp+1)++[(gg,dv,(m:Int)::((PL.drop (kp+1)).map fun x=>x.2.2).flatten)]) p (q+1) w'):=fun w6 h6=>by
      have:=afb h6 HE.out (m:=m) (kp:=kp) (rl:=rl) (Lf:=Lf) (qs:=qs) (gg:=gg) Cv J7 hrl J8 (by omega) (by omega) iX.out.total zZ (by rw[WC];exact hr2) (by rw[aeV zW.out hr2 hN];omega) (by rw[aeU hr2];exact hr3);rw[mM.out]at this;exact this
     have Xb:Hid (PL.length=kp+1+rl):=J8;clear hgo kE afl hr3 hdn J7 hrl zZ Pf vL J8 Xa hr1 hkp;by_cases hq4:q=400
     ·subst hq4
      have hno:mK T N R (ak T N R K).1 (ak T N R K).2 tok= .size:=by
       rw[<-iX.out.run,JV (zJ.out (.slice none 0 0)) (by exact wo)];cases gk with
       |zero=>rfl
       |succ n=>rw[mJ,if_neg (by simp[dV])]
      have HDn:Hid (mK T N R (ak T N R K).1 (ak T N R K).2 tok= .size):=hno;clear hno
      go_wp2_with
       (go_at_call 19;refine vo.mono ?_;rintro e w5 ⟨ua,uc,rfl,hL5,ay⟩
        have gZ:=lV.out w5 (.cells #[.int .i64 sh,.slice ua m2 uc,.bool false] 67) ay;have c7:=(gZ.cell (i:=7) rfl).1;rw[mM.out]at c7;have Pe:Hid (Below w0.heap.size w0 (w5.alloc (.cells #[.int .i64 sh,.slice ua m2 uc,.bool false] 67))):=gZ.since
        clear gZ hL5 ay vo)
      refine bodyPost_ret (v:= .tuple #[.slice none 0 0,.int .i64 0,.int .i64 1]) (by simp[results,Tryz.results11,go_sem]) rfl ?_;exact⟨_,[],0,1,rfl,⟨⟨⟨_,_,rfl⟩,fun p hp=>by simp at hp⟩,_,_,_,rfl,Nat.le_refl _⟩,by rw[HDn.out];rfl,Pe.out⟩
     ·have Fh:((q:Int)==400)=false:=by simp;omega
      go_wp2_with
       (first
        |(go_at_call 19;refine vo.mono ?_;rintro e w5 ⟨ua,uc,rfl,hL5,ay⟩
          have gZ:=lV.out w5 (.cells #[.int .i64 sh,.slice ua m2 uc,.bool false] 67) ay;have c7:=(gZ.cell (i:=7) rfl).1;rw[mM.out]at c7;obtain⟨lb,lo,lc,hlv,hlb,x0⟩:=hL5.2 0 (by rw[Pg.out];simp);rw[jL.out]at hlv;injection hlv with hl1 _ hl3;subst hl1;subst hl3;rw[Pg.out]at x0;have y0:(w5.alloc (.cells #[.int .i64 sh,.slice (some ⟨lb,lo,none⟩) m2 uc,.bool false] 67)).cell? ⟨lb,lo,none⟩=some (.int .i64 m):=(World.cell?_alloc_past _ _ _ hlb).trans x0;have af0:(0:Int)<(m2:Int):=by have:=jL.out;rw[Pg.out]at this;simp at this;omega
          have red:=afm.out _ gZ
          clear gZ hL5 ay vo x0)
        |(go_at_call 22;refine red.mono ?_;rintro e w6 ⟨rfl,Pd,Xc,kI⟩
          have eT:Hid (bN w0 d Pd (PL.take (kp+1)++[(gg,Xc,(m:Int)::((PL.drop (kp+1)).map fun x=>x.2.2).flatten)]) p (q+1) w6):=kI
          clear red kI))
      have hnx:=iX.out.next FU.out Aa.out (zJ.out Xc) (by omega) eT.out (by
       have h1:=iX.out.fst;have h2:0<(PL.take (kp+1)).length:=by rw[List.length_take,Xb.out];omega
       rw[List.getD,List.getElem?_append_left h2,List.getElem?_take,if_pos (by omega)]
       exact h1) (by
       have:=Xb.out;simp
       omega)
      go_roundg (gk-1)
      case measure=>exact hnx.1
      case rel=>exact⟨rfl,_,_,_,_,hnx.2⟩
end Go.Proofs.YtpkmpkphfflpjaaGreat

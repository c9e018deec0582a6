import Derived.Test.YthbifaoaiggooaaGreatDoorq24
set_option maxHeartbeats 3200000
set_option maxRecDepth 100000
namespace Go.Proofs.YthbifaoaiggooaaGreatDoor
open Go.RowKit
structure dZ(w:World)(pb B:Nat)(rv:Value)(p:bW):Prop where
 at_:w.heap[pb]?=some (.cells #[.int .i64 p.T,.int .i64 p.N,rv,.string ⟨p.tx.toArray⟩,.bool (decide (0<p.N))] 29 (0,0))
 lt:pb<B
 rules:lD w B rv p.R
 good:p.N=0\/aJ p.T p.N p.R=true
section
variable{w w':World}{pb B:Nat}{rv:Value}{p:bW}
theorem dZ.below(h:dZ w pb B rv p):pb<w.heap.size:=(dx.1 h.at_).1
theorem dZ.later(h:dZ w pb B rv p)(hb:Below w.heap.size w w'):dZ w' pb B rv p:=
 ⟨(hb.block _ h.below).trans h.at_,h.lt,h.rules.on (ah _) hb.size λk _ hk=>hb.block k hk,h.good⟩
theorem dZ.text(h:dZ w pb B rv p)(s:List UInt8):dZ (w.setCell ⟨pb,3,none⟩ (.string ⟨s.toArray⟩)) pb B rv { p with tx:=s }:=by
 have hb:But pb w (w.setCell ⟨pb,3,none⟩ (.string ⟨s.toArray⟩)):=But.set _ _ _;have hlt:=h.lt;exact⟨Lib.heap_setCell_same h.at_ _,h.lt,h.rules.on (ah _) hb.size λk h1 h2=>hb.block k h2 (by omega),h.good⟩
theorem dZ.cells(h:dZ w pb B rv p):w.cell? ⟨pb,0,none⟩=some (.int .i64 p.T)/\w.cell? ⟨pb,1,none⟩=some (.int .i64 p.N)/\w.cell? ⟨pb,2,none⟩=some rv/\w.cell? ⟨pb,3,none⟩=some (.string ⟨p.tx.toArray⟩)/\w.cell? ⟨pb,4,none⟩=some (.bool (decide (0<p.N))):=
 ⟨ay h.at_ rfl,ay h.at_ rfl,ay h.at_ rfl,ay h.at_ rfl,ay h.at_ rfl⟩
theorem aaq{u:List UInt8}{x:Int}(hu:u.length<=1000)(hx:eY x)(w:World):Calls Tryz.prog 7 #[.string ⟨u.toArray⟩,.slice (some ⟨w.heap.size,0,none⟩) 1 1] (w.alloc (.cells #[.int .i64 x] 3)) λe w'=>e= .returned (.string ⟨(gU u [x]).toArray⟩)/\Below w.heap.size w w':=by
 have hb:Below w.heap.size w (w.alloc (.cells #[.int .i64 x] 3)):=(ai _ _).alloc (ah _) _;exact(JE (by omega) (NT w x) (by simp) (λy hy=>by rw[gG.1 hy];exact hx)).mono λe w' ⟨h1,h2⟩=>⟨h1,hb.trans (h2.mono hb.size)⟩
theorem Dn{u:List UInt8}{x:Int}(hu:u.length<=1000)(hne:u≠[])(hx:eY x)(w:World):Calls Tryz.prog 7 #[.string ⟨u.toArray⟩,.slice (some ⟨w.heap.size,0,none⟩) 1 1] (w.alloc (.cells #[.int .i64 x] 3)) λe w'=>e= .returned (.string ⟨(bY u [x]).toArray⟩)/\Below w.heap.size w w':=by
 rw[<-aam hne (by simp)];exact aaq hu hx w
theorem aar{T N B':Nat}{ra:Option Addr}{rc:Nat}{R:List Ru}(h:dZ w pb B rv p)(hR:lD w B' (.slice ra R.length rc) R)(hB:pb<B')(hm:aJ T N R=true):Calls Tryz.prog 9 #[.pointer (some ⟨pb,0,none⟩),.agg #[.int .i64 T,.int .i64 N,.slice ra R.length rc]] w λe w'=>e= .returned (.string ⟨(bY [111,107] [(R.length:Int)]).toArray⟩)/\dZ w' pb B' (.slice ra R.length rc) ⟨p.tx,T,N,R⟩/\But pb w w':=by
 have hpb:=h.below;obtain⟨_,hN1,_,BX,_⟩:=iD hm;obtain⟨W1,hW1⟩:=af (w.alloc (.cells #[.int .i64 (T:Int),.int .i64 (N:Int),.slice ra R.length rc] 27));have hB1:Below w.heap.size w W1:=by rw[<-hW1];exact(ai _ _).alloc (ah _) _
 have hx1:=heap_alloc_new w (.cells #[.int .i64 (T:Int),.int .i64 (N:Int),.slice ra R.length rc] 27);rw[hW1]at hx1;obtain⟨gb,hgb⟩:=af w.heap.size;rw[hgb]at hx1;have h1:=h.later hB1;obtain⟨p0,p1,p2,p3,p4⟩:=h1.cells;have f0:=bO (i:=0) h1.at_;have f1:=bO (i:=1) h1.at_;have f2:=bO (i:=2) h1.at_;have f4:=bO (i:=4) h1.at_;obtain⟨W4,dS⟩:=af ((((W1.setCell ⟨pb,0,none⟩ (.int .i64 T)).setCell ⟨pb,1,none⟩ (.int .i64 N)).setCell ⟨pb,2,none⟩ (.slice ra R.length rc)).setCell ⟨pb,4,none⟩ (.bool true))
 have hb4:But pb W1 W4:=by
  rw[<-dS];exact(((But.set _ _ _).trans (But.set _ _ _)).trans (But.set _ _ _)).trans (But.set _ _ _)
 have hx4:W4.heap[pb]?=some (.cells #[.int .i64 T,.int .i64 N,.slice ra R.length rc,.string ⟨p.tx.toArray⟩,.bool (decide (0<N))] 29 (0,0)):=by
  rw[<-dS,aT (show 0<N by omega)];exact Lib.heap_setCell_same (i:=4) (Lib.heap_setCell_same (i:=2) (Lib.heap_setCell_same (i:=1) (Lib.heap_setCell_same (i:=0) h1.at_ _) _) _) _
 have mM:dZ W4 pb B' (.slice ra R.length rc) ⟨p.tx,T,N,R⟩:=⟨hx4,hB,(hR.on (ah _) hB1.size λk _ hk=>hB1.block k hk).on (ah _) hb4.size λk h1 h2=>hb4.block k h2 (by omega),.inr hm⟩;have hg4:=(hb4.block gb (dx.1 hx1).1 (by omega)).trans hx1;have g2:=ay (i:=2) hg4 rfl;have u0:=ay (i:=0) hx1 rfl;have u1:=ay (i:=1) hx1 rfl;have u2:=ay (i:=2) hx1 rfl;have sd:=Dn (u:=[111,107]) (x:=(R.length:Int)) (by simp) (by simp) ⟨by omega,by omega⟩ W4;have HW:Hid (w.alloc (.cells #[.int .i64 (T:Int),.int .i64 (N:Int),.slice ra R.length rc] 27)=W1/\w.heap.size=gb/\(((W1.setCell ⟨pb,0,none⟩ (.int .i64 T)).setCell ⟨pb,1,none⟩ (.int .i64 N)).setCell ⟨pb,2,none⟩ (.slice ra R.length rc)).setCell ⟨pb,4,none⟩ (.bool true)=W4):=⟨hW1,hgb,dS⟩;have HP:Hid (dZ W4 pb B' (.slice ra R.length rc) ⟨p.tx,T,N,R⟩/\But pb w W4):=⟨mM,(But.of pb hB1).trans hb4⟩;clear h hR hB hm hB1 hx1 h1 hb4 hx4 mM hg4 hW1 hgb dS
 go_enter Tryz.func9,Tryz.ntmps9
 go_upto_region 1 with fail
 rw[HW.out.1];rw[HW.out.2.1]
 go_upto_region 3 with fail
 rw[HW.out.2.2];clear p0 p1 p2 p3 p4 f0 f1 f2 f4 u0 u1 u2 HW
 go_wp2_with
  (go_at_call 7;refine sd.mono ?_;rintro e w5 ⟨rfl,h5⟩
   have H5:Hid (Below W4.heap.size W4 w5):=h5
   clear sd h5)
 go_ret;exact⟨rfl,HP.out.1.later H5.out,HP.out.2.trans (But.of pb H5.out)⟩
end
theorem ait{T N:Nat}{R:List Ru}{tok:List Int}{a:List Int×Int×Int}(hm:aJ T N R=true)(h:Bv T N R tok a)(h1:a.2.2=0)(h2:¬0<=a.2.1):a.1≠[]:=by
 rcases h with⟨_,rfl⟩|⟨K,h3,_,⟨h4,rfl⟩|⟨_,_,rfl⟩|⟨h3',h4,rfl⟩⟩
 ·simp at h1
 ·exact absurd h1 h4
 ·simp at h1
 ·obtain⟨gJ,hin⟩:=L8 hm h3'
  obtain⟨k1,k2⟩:=Yl (Qt (OI hm) h3 (QB h3)) (Yo hin) (tok.length+402) Qz Qv rfl;cases he:tX T N R (ax T N R K).1 (ax T N R K).2 tok with
  |done d=>
   obtain⟨⟨k,hk⟩,hl⟩:=k1 d he;cases k with
   |zero=>exact hk.elim
   |succ k=>obtain⟨q,_,_,d',rfl,_⟩:=hk;simp[zM]
  |none n=>rw[he]at h2;simp[zM]at h2
  |size=>rw[he]at h1;simp[zM]at h1
section
variable{w w':World}{pb B:Nat}{rv:Value}{p:bW}{la:Option Addr}{ln lc:Nat}
theorem aiu(h:dZ w pb B rv p)(hm:aJ p.T p.N p.R=true):Calls Tryz.prog 11 #[.pointer (some ⟨pb,0,none⟩),.string ⟨#[115,104,111,119]⟩,.slice la ln lc] w λe w'=>e= .returned (.string ⟨(iB [((nP p.T p.N p.R).length:Int)]).toArray⟩)/\Below w.heap.size w w':=by
 obtain⟨c0,c1,c2,-⟩:=h.cells;obtain⟨ra,rc,aI⟩:=h.rules.at.1;subst aI;have pr:=TY (T:=p.T) (N:=p.N) h.rules.at hm
 have hlen:(nP p.T p.N p.R).length<=4611686018427387904:=by
  have hl:=Kj hm;have h1:=Kk hl;have h2:=hl.part p.R.length;rw[gH]at h2;unfold nP;rw[aS];omega
 obtain⟨z,hz⟩:=af (nP p.T p.N p.R);rw[hz]at pr hlen⊢;rw[<-Nh]
 have HT:Hid (∀wq:World,Calls Tryz.prog 7 #[.string ⟨#[]⟩,.slice (some ⟨wq.heap.size,0,none⟩) 1 1] (wq.alloc (.cells #[.int .i64 (z.length:Int)] 3)) λe w'=>e= .returned (.string ⟨(gU [] [(z.length:Int)]).toArray⟩)/\Below wq.heap.size wq w'):=λwq=>
  aaq (u:=[]) (by simp) ⟨by omega,by omega⟩ wq
 clear h hz hm
 go_enter Tryz.func11,Tryz.ntmps11
 go_wp2_with
  (first
   |(go_at_call 24;refine pr.mono ?_;rintro e w2 ⟨rfl,h2⟩
     have dg:=HT.out w2;have H2:Hid (Below w.heap.size w w2):=h2
     clear pr h2)
   |(go_at_call 7;refine dg.mono ?_;rintro e w3 ⟨rfl,h3⟩
     have H3:Hid (Below w.heap.size w w3):=H2.out.trans (h3.mono H2.out.size)
     clear dg h3))
 go_ret;exact⟨rfl,H3.out⟩
theorem aiv(h:dZ w pb B rv p)(hm:aJ p.T p.N p.R=true):Calls Tryz.prog 11 #[.pointer (some ⟨pb,0,none⟩),.string ⟨#[115,104,111,114,116]⟩,.slice la ln lc] w λe w'=> ∃O,nM p.N p.R O/\e= .returned (.string ⟨(iB O).toArray⟩)/\Below w.heap.size w w':=by
 obtain⟨c0,c1,c2,-⟩:=h.cells;obtain⟨ra,rc,aI⟩:=h.rules.at.1;subst aI;have sh:=TL (T:=p.T) (N:=p.N) h.rules.at hm;have hN:=(iD hm).2.2.1
 have HT:Hid (∀wq g O,Below w.heap.size w wq->fO wq w.heap.size g p.N O->nM p.N p.R O->Calls Tryz.prog 7 #[.string ⟨#[]⟩,.slice (some ⟨g,0,none⟩) p.N p.N] wq λe w'=>e= .returned (.string ⟨(iB O).toArray⟩)/\Below wq.heap.size wq w'):=λwq g O hq hr hi=>by
  rw[<-Nh];exact JE (u:=[]) (by simp) hr.list (by have:=hr.len;omega) (Oh hi)
 clear h hm
 go_enter Tryz.func11,Tryz.ntmps11
 go_wp2_with
  (first
   |(go_at_call 21;refine sh.mono ?_;rintro e w2 ⟨g,O,rfl,h2,h3,h4⟩
     have dg:=HT.out w2 g O h2 h3 h4;have H2:Hid (Below w.heap.size w w2/\nM p.N p.R O):=⟨h2,h4⟩
     clear sh h2 h3 h4)
   |(go_at_call 7;refine dg.mono ?_;rintro e w3 ⟨rfl,h3⟩
     have H3:Hid (Below w.heap.size w w3):=H2.out.1.trans (h3.mono H2.out.1.size)
     clear dg h3))
 go_ret;exact⟨O,H2.out.2,rfl,H3.out⟩
theorem aiw{ta:Option Addr}{tc:Nat}{tok:List Int}(h:dZ w pb B rv p)(hm:aJ p.T p.N p.R=true)(ht:aY w w.heap.size (.slice ta tok.length tc) tok):Calls Tryz.prog 11 #[.pointer (some ⟨pb,0,none⟩),.string ⟨#[104,97,115]⟩,.slice ta tok.length tc] w λe w'=> ∃o,kS p tok o/\e= .returned (.string ⟨o.toArray⟩)/\Below w.heap.size w w':=by
 obtain⟨c0,c1,c2,-⟩:=h.cells;obtain⟨ra,rc,aI⟩:=h.rules.at.1;subst aI;by_cases hw:eZ p.T p.N p.R tok=0
 ·obtain⟨gJ,hin⟩:=L8 hm hw
  have hr:∃z o,kS p tok o/\o=(if z then [121,101,115] else [110,111])/\Calls Tryz.prog 25 #[.agg #[.int .i64 p.T,.int .i64 p.N,.slice ra p.R.length rc],.slice ta tok.length tc] w λe w'=>e= .returned (.tuple #[.bool z,.int .i64 0])/\Below w.heap.size w w':=by
   have hr:=Vg (T:=p.T) (N:=p.N) h.rules.at ht hm gJ hin;by_cases hD:nQ p.R 0 tok
   ·exact⟨true,_,.inr ⟨hw,.inl ⟨hD,rfl⟩⟩,rfl,hr.mono λe w' ⟨z,h1,h2,h3⟩=>⟨by rw[h1,h2.2 hD],h3⟩⟩
   ·exact⟨false,_,.inr ⟨hw,.inr ⟨hD,rfl⟩⟩,rfl,hr.mono λe w' ⟨z,h1,h2,h3⟩=>⟨by
     cases z with
     |true=>exact absurd (h2.1 rfl) hD
     |false=>exact h1,h3⟩⟩
  obtain⟨z,o,ho,hz,hr⟩:=hr;have HO:Hid (kS p tok o):=ho;clear h hm ht hw gJ hin ho
  cases z<;>
   (subst hz
    go_enter Tryz.func11,Tryz.ntmps11
    go_wp2_with
     (go_at_call 25;refine hr.mono ?_;rintro e w2 ⟨rfl,h2⟩
      have H2:Hid (Below w.heap.size w w2):=h2
      clear hr h2)
    go_ret
    exact⟨_,HO.out,rfl,H2.out⟩)
 ·have hr:=Vf (T:=p.T) (N:=p.N) h.rules.at ht hw
  have hx:=Mq p.T p.N p.R tok;have HO:Hid (kS p tok (bY [98,97,100] [eZ p.T p.N p.R tok])):= .inl ⟨hw,rfl⟩;obtain⟨x,Jc⟩:=af (eZ p.T p.N p.R tok);rw[Jc]at hr hx HO hw
  have HT:Hid (∀wq:World,Calls Tryz.prog 7 #[.string ⟨#[98,97,100]⟩,.slice (some ⟨wq.heap.size,0,none⟩) 1 1] (wq.alloc (.cells #[.int .i64 x] 3)) λe w'=>e= .returned (.string ⟨(bY [98,97,100] [x]).toArray⟩)/\Below wq.heap.size wq w'):=λwq=>
   Dn (u:=[98,97,100]) (by simp) (by simp) hx wq
  have b1:(x==0)=false:=by simpa using hw
  clear h hm ht Jc hx hw
  go_enter Tryz.func11,Tryz.ntmps11
  go_wp2_with
   (first
    |(go_at_call 25;refine hr.mono ?_;rintro e w2 ⟨rfl,h2⟩
      have td:=HT.out w2;have H2:Hid (Below w.heap.size w w2):=h2
      clear hr h2)
    |(go_at_call 7;refine td.mono ?_;rintro e w4 ⟨rfl,h4⟩
      have H4:Hid (Below w.heap.size w w4):=H2.out.trans (h4.mono H2.out.size)
      clear td h4))
  go_ret;exact⟨_,HO.out,rfl,H4.out⟩
theorem aix{ta:Option Addr}{tc:Nat}{tok:List Int}(h:dZ w pb B rv p)(hm:aJ p.T p.N p.R=true)(ht:aY w w.heap.size (.slice ta tok.length tc) tok):Calls Tryz.prog 11 #[.pointer (some ⟨pb,0,none⟩),.string ⟨#[112,97,114,115,101]⟩,.slice ta tok.length tc] w λe w'=> ∃o,nC p tok o/\e= .returned (.string ⟨o.toArray⟩)/\Below w.heap.size w w':=by
 obtain⟨c0,c1,c2,-⟩:=h.cells;obtain⟨ra,rc,aI⟩:=h.rules.at.1;subst aI;obtain⟨⟨D,a,x⟩,hP⟩:=YO p.T p.N p.R tok;obtain⟨hx,ha,hDl,CS⟩:=QS hm hP;have hne:=ait hm hP
 have pa:Calls Tryz.prog 26 #[.agg #[.int .i64 p.T,.int .i64 p.N,.slice ra p.R.length rc],.slice ta tok.length tc] w λe w'=> ∃da dc,e= .returned (.tuple #[.slice da D.length dc,.int .i64 a,.int .i64 x])/\aY w' w'.heap.size (.slice da D.length dc) D/\Below w.heap.size w w':=by
  refine(YM (T:=p.T) (N:=p.N) h.rules.at ht hm).mono λe w' ⟨dv,D',a',x',h1,h2,h3,h4⟩=> ?_;have:=h3.one hP;simp only[qx]at this;obtain⟨rfl,rfl,rfl⟩:=this;obtain⟨da,dc,rfl⟩:=h2.1.1;exact⟨da,dc,h1,h2.1,h4⟩
 have HO:Hid (nC p tok (qm (D,a,x))):=⟨_,hP,rfl⟩;simp only at hx ha hDl CS hne;have HE:Hid (D.length<=400/\∀x∈D,eY x):=⟨hDl,CS⟩
 have HT:Hid (∀(u:List UInt8) (y:Int) (wq:World),u.length<=1000->u≠[]->eY y->Calls Tryz.prog 7 #[.string ⟨u.toArray⟩,.slice (some ⟨wq.heap.size,0,none⟩) 1 1] (wq.alloc (.cells #[.int .i64 y] 3)) λe w'=>e= .returned (.string ⟨(bY u [y]).toArray⟩)/\Below wq.heap.size wq w'):=λu y wq hu hn hy=>
  Dn hu hn hy wq
 clear h hm ht hP hDl CS;by_cases hx0:x=0
 ·subst hx0
  by_cases ha0:0<=a
  ·have hO:qm (D,a,(0:Int))=bY [97,116] [a]:=by simp[qm,ha0]
   rw[hO]at HO;have d1:decide (0<=a)=true:=aT ha0;clear hO hne
   go_enter Tryz.func11,Tryz.ntmps11
   go_wp2_with
    (first
     |(go_at_call 26;refine pa.mono ?_;rintro e w2 ⟨da,dc,rfl,-,h2⟩
       have td:=HT.out [97,116] a w2 (by simp) (by simp) ha;have H2:Hid (Below w.heap.size w w2):=h2
       clear pa h2)
     |(go_at_call 7;refine td.mono ?_;rintro e w4 ⟨rfl,h4⟩
       have H4:Hid (Below w.heap.size w w4):=H2.out.trans (h4.mono H2.out.size)
       clear td h4))
   go_ret;exact⟨_,HO.out,rfl,H4.out⟩
  ·have hO:qm (D,a,(0:Int))=bY [105,115] D:=by simp[qm,ha0]
   rw[hO]at HO;have d1:decide (0<=a)=false:=aU ha0;have HD:Hid (gU [105,115] D=bY [105,115] D):=aam (by simp) (hne rfl ha0);clear hO hne
   go_enter Tryz.func11,Tryz.ntmps11
   go_wp2_with
    (first
     |(go_at_call 26;refine pa.mono ?_;rintro e w2 ⟨da,dc,rfl,h3,h2⟩
       have td:=JE (u:=[105,115]) (by simp) h3 (by have:=HE.out.1;omega) HE.out.2;rw[HD.out]at td;have H2:Hid (Below w.heap.size w w2):=h2
       clear pa h2 h3)
     |(go_at_call 7;refine td.mono ?_;rintro e w4 ⟨rfl,h4⟩
       have H4:Hid (Below w.heap.size w w4):=H2.out.trans (h4.mono H2.out.size)
       clear td h4))
   go_ret;exact⟨_,HO.out,rfl,H4.out⟩
 ·have hO:qm (D,a,x)=bY [98,97,100] [x]:=by simp[qm,hx0]
  rw[hO]at HO;have b1:(x==0)=false:=by simpa using hx0
  clear hO hx0 hne
  go_enter Tryz.func11,Tryz.ntmps11
  go_wp2_with
   (first
    |(go_at_call 26;refine pa.mono ?_;rintro e w2 ⟨da,dc,rfl,-,h2⟩
      have td:=HT.out [98,97,100] x w2 (by simp) (by simp) hx;have H2:Hid (Below w.heap.size w w2):=h2
      clear pa h2)
    |(go_at_call 7;refine td.mono ?_;rintro e w4 ⟨rfl,h4⟩
      have H4:Hid (Below w.heap.size w w4):=H2.out.trans (h4.mono H2.out.size)
      clear td h4))
  go_ret;exact⟨_,HO.out,rfl,H4.out⟩
end
section
variable{w w':World}{pb B:Nat}{rv:Value}{p:bW}{la:Option Addr}{ln lc:Nat}
theorem aiy(h:dZ w pb B rv p)(hm:aJ p.T p.N p.R=true):Calls Tryz.prog 11 #[.pointer (some ⟨pb,0,none⟩),.string ⟨#[116,97,98,108,101]⟩,.slice la ln lc] w λe w'=> ∃o,uh p o/\e= .returned (.string ⟨o.toArray⟩)/\Below w.heap.size w w':=by
 obtain⟨c0,c1,c2,-⟩:=h.cells;obtain⟨ra,rc,aI⟩:=h.rules.at.1;subst aI;have tk:=Qo (T:=p.T) (N:=p.N) h.rules.at hm;by_cases hM:More p.T p.N p.R 150
 ·have wm:Calls Tryz.prog 22 #[.agg #[.int .i64 p.T,.int .i64 p.N,.slice ra p.R.length rc]] w λe w'=>e= .returned (.tuple #[.agg #[.slice none 0 0,.slice none 0 0],.int .i64 1])/\Below w.heap.size w w':=
   tk.mono λe w' h=>by
    rcases h with⟨h1,h2,_⟩|⟨K,cv,gv,_,_,h3,h4,_⟩
    ·exact⟨h1,h2⟩
    ·exact absurd hM (AP h3 h4)
  have HO:Hid (uh p (bY [98,97,100] [1])):= .inl ⟨hM,rfl⟩;clear h hm tk hM
  go_enter Tryz.func11,Tryz.ntmps11
  go_upto_region 18 with
   (go_at_call 22;refine wm.mono ?_;rintro e w2 ⟨rfl,h2⟩
    clear wm)
  obtain⟨q,hq⟩:=af w2.heap.size;obtain⟨W3,hW⟩:=af (w2.alloc (.cells #[.slice none 0 0,.slice none 0 0] 73));have h3:Below w.heap.size w W3:=by rw[<-hW];exact h2.alloc h2.size _
  rw[hW];rw[hq];have td:=Dn (u:=[98,97,100]) (x:=1) (by simp) (by simp) ⟨by omega,by omega⟩ W3;have H3:Hid (Below w.heap.size w W3):=h3;clear h2 hq hW h3
  go_wp2_with
   (go_at_call 7;refine td.mono ?_;rintro e w4 ⟨rfl,h4⟩
    have H4:Hid (Below w.heap.size w w4):=H3.out.trans (h4.mono H3.out.size)
    clear td h4)
  go_ret;exact⟨_,HO.out,rfl,H4.out⟩
 ·obtain⟨K,hW,hK⟩:=IW (by omega) hM
  have wm:Calls Tryz.prog 22 #[.agg #[.int .i64 p.T,.int .i64 p.N,.slice ra p.R.length rc]] w λe w'=> ∃ca cc gv,e= .returned (.tuple #[.agg #[.slice ca K cc,gv],.int .i64 0])/\Below w.heap.size w w'/\TabAt w' (.slice ca K cc) gv (dF p.T p.N p.R K) (jo p.T p.N p.R K):=
   tk.mono λe w' h=>by
    rcases h with⟨_,_,h3⟩|⟨K',cv,gv,h1,h2,h3,h4,h5⟩
    ·exact absurd h3 hM
    ·obtain rfl:=ES hW h3
     obtain⟨ca,cc,hcv⟩:=h5.cells.1;rw[uU]at hcv;subst hcv;exact⟨ca,cc,gv,h1,h2,h5⟩
  obtain⟨s1,s2,s3⟩:=QT hm hK;have hcl:=QU hm hK;obtain⟨cn,hcn⟩:=af (gZ (dF p.T p.N p.R K));have HO:Hid (uh p (iB [(K:Int),cn])):= .inr ⟨K,hW,hK,by rw[hcn]⟩
  have HC:Hid (∀wq cv gv,TabAt wq cv gv (dF p.T p.N p.R K) (jo p.T p.N p.R K)->Calls Tryz.prog 23 #[.agg #[cv,gv]] wq λe w'=>e= .returned (.int .i64 cn)/\Below wq.heap.size wq w'):=λwq cv gv ht=>by
   have:=Qq ht s1 s2 s3;rw[hcn]at this;exact this
  rw[hcn]at hcl
  have HT:Hid (∀wq:World,Calls Tryz.prog 7 #[.string ⟨#[]⟩,.slice (some ⟨wq.heap.size,0,none⟩) 2 2] (wq.alloc (.cells #[.int .i64 (K:Int),.int .i64 cn] 3)) λe w'=>e= .returned (.string ⟨(iB [(K:Int),cn]).toArray⟩)/\Below wq.heap.size wq w'):=λwq=>by
   have hb:Below wq.heap.size wq (wq.alloc (.cells #[.int .i64 (K:Int),.int .i64 cn] 3)):=(ai _ _).alloc (ah _) _;rw[<-Nh]
   exact(JE (u:=[]) (by simp) (YP wq K cn) (by simp) (λy hy=>by
    rcases iW.1 hy with hy|hy
    ·rw[hy];exact⟨by omega,by omega⟩
    ·rw[gG.1 hy];exact hcl)).mono λe w' ⟨h1,h2⟩=>⟨h1,hb.trans (h2.mono hb.size)⟩
  clear h hm tk hM hW hcn hcl s1 s2 s3
  go_enter Tryz.func11,Tryz.ntmps11
  go_upto_region 18 with
   (go_at_call 22;refine wm.mono ?_;rintro e w2 ⟨ca,cc,gv,rfl,h2,h5⟩
    obtain⟨ga,gc,hgv⟩:=h5.goto.1;subst hgv
    clear wm)
  obtain⟨gn,hgn⟩:=af ((jo p.T p.N p.R K).length);rw[hgn]at h5;rw[hgn];obtain⟨q,hq⟩:=af w2.heap.size;obtain⟨W3,hW⟩:=af (w2.alloc (.cells #[.slice ca K cc,.slice ga gn gc] 73));have hb3:Below w2.heap.size w2 W3:=by rw[<-hW];exact(ai _ _).alloc (ah _) _
  have hx3:=heap_alloc_new w2 (.cells #[.slice ca K cc,.slice ga gn gc] 73);rw[hW,hq]at hx3;rw[hW];rw[hq];have h3:=h2.trans (hb3.mono h2.size)
  have HS:Hid (∀wq,Below W3.heap.size W3 wq->(wq.cell? ⟨q,0,none⟩=some (.slice ca K cc)/\wq.cell? ⟨q,1,none⟩=some (.slice ga gn gc))/\Below w.heap.size w wq/\TabAt wq (.slice ca K cc) (.slice ga gn gc) (dF p.T p.N p.R K) (jo p.T p.N p.R K)):=λwq hw=>by
   have hy:=(hw.block _ (dx.1 hx3).1).trans hx3;exact⟨⟨ay hy rfl,ay hy rfl⟩,h3.trans (hw.mono h3.size),(h5.below hb3).below hw⟩
  clear h2 h3 h5 hgn hq hW hb3 hx3
  go_upto_region 20 with fail
  obtain⟨Wd,hWd⟩:=af W3.drew;have hBd:Below W3.heap.size W3 Wd:=by rw[<-hWd];exact(ai _ _).drew
  obtain⟨S0,-,rX⟩:=HS.out Wd hBd;have cl:=HC.out Wd _ _ rX;have dz:Hid (Below W3.heap.size W3 Wd):=hBd;clear hBd rX;refine mK [0,1,2,3] 4 7 (λwq=>wq.cell? ⟨q,0,none⟩=some (.slice ca K cc)/\wq.cell? ⟨q,1,none⟩=some (.slice ga gn gc)) (by kernel_rfl) (by kernel_rfl) (by rw[hWd];exact S0) ?_;rw[hWd];clear hWd S0
  iterate 4
   refine aW.yT (v:= ?_) rfl (by rfl) ?_ ?_;rotate_left
   ·intro w' hSw
    obtain⟨z0,z1⟩:=hSw
    go_simp
    try with_reducible rfl
   simp only[Act.put,eB,List.set_cons_zero,List.set_cons_succ]
  rw[aW];refine aC.one (i:=4) (by kernel_rfl) ⟨_,rfl,λK' hK'=> ?_⟩
  go_simp
  refine cl.mono ?_;rintro e w4 ⟨rfl,h4⟩;dsimp only;have hb4:=dz.out.trans (h4.mono dz.out.size);have dg:=HT.out w4;have S5:=HS.out (w4.alloc (.cells #[.int .i64 (K:Int),.int .i64 (cn:Int)] 3)) (hb4.alloc hb4.size _);refine hK'.out _ _ (λ_=>(HS.out w4 hb4).1) ?_;have H4:Hid (Below W3.heap.size W3 w4):=hb4;clear hK' cl h4 hb4;refine aC.one (i:=5) (by kernel_rfl) ⟨_,rfl,λK' hK'=> ?_⟩
  go_simp
  refine hK'.out _ _ (λ_=>S5.1) ?_;clear hK';refine aC.one (i:=6) (by kernel_rfl) ⟨_,rfl,λK' hK'=> ?_⟩
  go_simp
  refine dg.mono ?_;rintro e w6 ⟨rfl,h6⟩;dsimp only;have hb6:=H4.out.trans (h6.mono H4.out.size);refine hK'.out _ _ (λ_=>(HS.out w6 hb6).1) ?_;have H6:Hid (Below w.heap.size w w6):=(HS.out w6 hb6).2.1;clear hK' dg h6 hb6 S5;refine aC.last (i:=7) (by kernel_rfl) ⟨_,rfl,λK' hK'=> ?_⟩
  go_simp
  refine hK'.out _ _ (λh=>absurd h (by omega)) (NoPanic.normal ?_);clear hK'
  go_wp2_with fail
  go_ret;exact⟨_,HO.out,rfl,H6.out⟩
end
section
variable{w w':World}{pb B:Nat}{rv:Value}{p:bW}{la:Option Addr}{lc:Nat}
theorem aiz{s:Stp}(h:dZ w pb B rv p)(hm:aJ p.T p.N p.R=true)(hl:aY w w.heap.size (.slice la 4 lc) [s.op,s.a,s.b,s.c]):Calls Tryz.prog 11 #[.pointer (some ⟨pb,0,none⟩),.string ⟨#[115,116,101,112]⟩,.slice la 4 lc] w λe w'=>e= .returned (.string ⟨(kV p s).toArray⟩)/\(∃B' rv',dZ w' pb B' rv' (kC p s))/\But pb w w':=by
 obtain⟨ra,rc,aI⟩:=h.rules.at.1;subst aI;have hpb:=h.below;obtain⟨T1,N1,x,R1,hv,hV⟩:=RF (s:=s) hm;have HV:Hid ((x=0/\∃T2 N2:Nat,T1=T2/\N1=N2/\aJ T2 N2 R1=true/\kC p s=⟨p.tx,T2,N2,R1⟩/\kV p s=bY [111,107] [(R1.length:Int)])\/(x≠0/\eY x/\kC p s=p/\kV p s=bY [98,97,100] [x])):=hV;have HE:Hid (pb<w.heap.size/\dZ w pb B (.slice ra p.R.length rc) p):=⟨hpb,h⟩;obtain⟨lb,lo,lc',e0,hlb,l0⟩:=hl.2 0 (by simp);obtain rfl:la=some ⟨lb,lo,none⟩:=by injection e0
 have hcell:∀j,j<4->w.cell? ⟨lb,lo+j,none⟩=some (.int .i64 ([s.op,s.a,s.b,s.c].getD j 0)):=λj hj=>by
  obtain⟨b',o',c',e1,-,e2⟩:=hl.2 j (by simpa using hj);injection e1 with e1;injection e1 with e1;injection e1 with e1 e3;subst e1 e3;exact e2
 have HS:Hid (∀wq,Below w.heap.size w wq->(wq.cell? ⟨pb,0,none⟩=some (.int .i64 p.T)/\wq.cell? ⟨pb,1,none⟩=some (.int .i64 p.N)/\wq.cell? ⟨pb,2,none⟩=some (.slice ra p.R.length rc))/\(wq.cell? ⟨lb,lo,none⟩=some (.int .i64 s.op)/\wq.cell? ⟨lb,lo+1,none⟩=some (.int .i64 s.a)/\wq.cell? ⟨lb,lo+2,none⟩=some (.int .i64 s.b)/\wq.cell? ⟨lb,lo+3,none⟩=some (.int .i64 s.c))/\aG wq wq.heap.size (.slice ra p.R.length rc) p.R):=λwq hq=>by
  have hP:=h.later hq;obtain⟨q0,q1,q2,-⟩:=hP.cells;exact⟨⟨q0,q1,q2⟩,⟨(hq.cell hlb).trans (hcell 0 (by omega)),(hq.cell hlb).trans (hcell 1 (by omega)),(hq.cell hlb).trans (hcell 2 (by omega)),(hq.cell hlb).trans (hcell 3 (by omega))⟩,hP.rules.at⟩
 have HD:Hid (∀wq,Below w.heap.size w wq->Calls Tryz.prog 27 #[.agg #[.int .i64 p.T,.int .i64 p.N,.slice ra p.R.length rc],.agg #[.int .i64 s.op,.int .i64 s.a,.int .i64 s.b,.int .i64 s.c]] wq λe w'=> ∃la lc,e= .returned (.tuple #[.agg #[.int .i64 T1,.int .i64 N1,.slice la R1.length lc],.int .i64 x])/\lD w' wq.heap.size (.slice la R1.length lc) R1/\Below wq.heap.size wq w'):=λwq hq=>by
  refine(aaf (T:=p.T) (N:=p.N) (HS.out wq hq).2.2 s).mono λe w' ⟨lv,RL,h1,h2,h3,h4⟩=> ?_;rw[hv]at h1 h3;obtain⟨la,lc,hlv⟩:=cO h2.own;have hi:=h2.J9;have h3':(RL.map λx=>x.2)=R1:=h3;have hl:RL.length=R1.length:=by rw[<-h3',cK]
  rw[h3',hlv,hl]at hi;exact⟨la,lc,by rw[h1,hlv,hl],hi,h4⟩
 clear h hv hV hm hl e0 l0 hlb hcell
 go_enter Tryz.func11,Tryz.ntmps11
 go_upto_region 38 with fail
 go_cut [23,24] from 156 to 176 (λs5 s6 wx=> ∃(gb:Nat) (la:Option Addr) (lc:Nat),s5= .pointer (some ⟨gb,0,none⟩)/\s6= .int .i64 x/\wx.heap[gb]?=some (.cells #[.int .i64 T1,.int .i64 N1,.slice la R1.length lc] 27 (0,0))/\Below w.heap.size w wx/\lD wx w.heap.size (.slice la R1.length lc) R1)
 case first=>
  obtain⟨Wd,hWd⟩:=af w.drew;have hBd:Below w.heap.size w Wd:=by rw[<-hWd];exact(ai _ _).drew
  have S0:=HS.out Wd hBd;have dz:Hid (Below w.heap.size w Wd):=hBd;clear hBd;refine mK [0,1,2,3,4,5,6,7,8,9,10,11,12,13,14,15,16] 7 23 (λwq=>(wq.cell? ⟨pb,0,none⟩=some (.int .i64 p.T)/\wq.cell? ⟨pb,1,none⟩=some (.int .i64 p.N)/\wq.cell? ⟨pb,2,none⟩=some (.slice ra p.R.length rc))/\(wq.cell? ⟨lb,lo,none⟩=some (.int .i64 s.op)/\wq.cell? ⟨lb,lo+1,none⟩=some (.int .i64 s.a)/\wq.cell? ⟨lb,lo+2,none⟩=some (.int .i64 s.b)/\wq.cell? ⟨lb,lo+3,none⟩=some (.int .i64 s.c))) (by kernel_rfl) (by kernel_rfl) (by rw[hWd];exact⟨S0.1,S0.2.1⟩) ?_;rw[hWd];clear hWd S0
  iterate 17
   refine aW.yT (v:= ?_) rfl (by rfl) ?_ ?_;rotate_left
   ·intro w' hSw
    obtain⟨⟨z0,z1,z2⟩,z3,z4,z5,z6⟩:=hSw
    go_simp
    try with_reducible rfl
   simp only[Act.put,eB,List.set_cons_zero,List.set_cons_succ]
  rw[aW];refine aC.two (i:=17) (i':=21) (by kernel_rfl) ⟨_,rfl,λK hK=> ?_⟩ ⟨_,rfl,λK hK=> ?_⟩
  ·have dd:=HD.out Wd dz.out
   go_simp
   refine dd.mono ?_;rintro e w2 ⟨la,lc,rfl,hr2,h2⟩;dsimp only;have hb2:=dz.out.trans (h2.mono dz.out.size);have S2:=HS.out w2 hb2;refine hK.out _ _ (λ_=>⟨S2.1,S2.2.1⟩) ?_;clear hK;refine aC.read (i:=18) (v:= .tuple #[.agg #[.int .i64 T1,.int .i64 N1,.slice la R1.length lc],.int .i64 x]) rfl (by kernel_rfl) (by rfl) (λw' _=>by unfold execOp;go_simp) ⟨S2.1,S2.2.1⟩ ?_;simp only[Act.put,eB,List.set_cons_zero,List.set_cons_succ];refine aC.read (i:=19) (v:= .agg #[.int .i64 T1,.int .i64 N1,.slice la R1.length lc]) rfl (by kernel_rfl) (by rfl) (λw' _=>by unfold execOp;go_simp) ⟨S2.1,S2.2.1⟩ ?_;simp only[Act.put,eB,List.set_cons_zero,List.set_cons_succ];refine aC.read (i:=20) (v:= .int .i64 x) rfl (by kernel_rfl) (by rfl) (λw' _=>by unfold execOp;go_simp) ⟨S2.1,S2.2.1⟩ ?_;simp only[Act.put,eB,List.set_cons_zero,List.set_cons_succ];refine aC.one (i:=21) (by kernel_rfl) ⟨_,rfl,λK hK=> ?_⟩
   go_simp
   have S3:=HS.out (w2.alloc (.cells #[.int .i64 0,.int .i64 0,.slice none 0 0] 27)) (hb2.alloc hb2.size _);refine hK.out _ _ (λ_=>⟨S3.1,S3.2.1⟩) ?_;clear hK;refine aC.one (i:=22) (by kernel_rfl) ⟨_,rfl,λK hK=> ?_⟩
   go_simp
   have S4:=HS.out (w2.alloc (.cells #[.int .i64 T1,.int .i64 N1,.slice la R1.length lc] 27)) (hb2.alloc hb2.size _);refine hK.out _ _ (λ_=>⟨S4.1,S4.2.1⟩) ?_;clear hK;refine aC.last (i:=23) (by kernel_rfl) ⟨_,rfl,λK hK=> ?_⟩
   go_simp
   refine hK.out _ _ (λh=>absurd h (by omega)) (NoPanic.normal ?_);clear hK
   go_wp2_with fail
   go_meet
   case rel=>
    refine⟨w2.heap.size,la,lc,rfl,rfl,heap_alloc_new w2 _,hb2.alloc hb2.size _,?_⟩;have hz:=dz.out.size;exact hr2.on (by omega) (by simp) λk _ hk=>sJ _ _ _ hk
  ·go_simp
   have hba:Below w.heap.size w (Wd.alloc (.cells #[.int .i64 0,.int .i64 0,.slice none 0 0] 27)):=dz.out.alloc dz.out.size _;have S1:=HS.out _ hba;have dd:=HD.out _ hba;refine hK.out _ _ (λ_=>⟨S1.1,S1.2.1⟩) ?_;clear hK;have hxg:=heap_alloc_new Wd (.cells #[.int .i64 0,.int .i64 0,.slice none 0 0] 27);obtain⟨gb,hgb⟩:=af Wd.heap.size;obtain⟨Wa,hWa⟩:=af (Wd.alloc (.cells #[.int .i64 0,.int .i64 0,.slice none 0 0] 27));have hza:Wa.heap.size=gb+1:=by rw[<-hWa,<-hgb];simp
   rw[hWa]at hxg dd hba;rw[hgb]at hxg;rw[hWa,hgb];have HX:Hid (Wa.heap[gb]?=some (.cells #[.int .i64 0,.int .i64 0,.slice none 0 0] 27 (0,0))/\Wa.heap.size=gb+1/\Below w.heap.size w Wa/\w.heap.size<=gb):=⟨hxg,hza,hba,by have:=dz.out.size;omega⟩;clear hWa hgb hxg hza hba S1;refine aC.one (i:=17) (by kernel_rfl) ⟨_,rfl,λK hK=> ?_⟩
   go_simp
   refine dd.mono ?_;rintro e w2 ⟨la,lc,rfl,hr2,h2⟩;dsimp only;have hb2:=HX.out.2.2.1.trans (h2.mono HX.out.2.2.1.size);have S2:=HS.out w2 hb2;refine hK.out _ _ (λ_=>⟨S2.1,S2.2.1⟩) ?_;clear hK dd;refine aC.read (i:=18) (v:= .tuple #[.agg #[.int .i64 T1,.int .i64 N1,.slice la R1.length lc],.int .i64 x]) rfl (by kernel_rfl) (by rfl) (λw' _=>by unfold execOp;go_simp) ⟨S2.1,S2.2.1⟩ ?_;simp only[Act.put,eB,List.set_cons_zero,List.set_cons_succ];refine aC.read (i:=19) (v:= .agg #[.int .i64 T1,.int .i64 N1,.slice la R1.length lc]) rfl (by kernel_rfl) (by rfl) (λw' _=>by unfold execOp;go_simp) ⟨S2.1,S2.2.1⟩ ?_;simp only[Act.put,eB,List.set_cons_zero,List.set_cons_succ];refine aC.read (i:=20) (v:= .int .i64 x) rfl (by kernel_rfl) (by rfl) (λw' _=>by unfold execOp;go_simp) ⟨S2.1,S2.2.1⟩ ?_;simp only[Act.put,eB,List.set_cons_zero,List.set_cons_succ];have hxb:=(h2.block gb (by have:=HX.out.2.1;omega)).trans HX.out.1;have e0:=ay (i:=0) hxb rfl;have e1:=ay (i:=1) hxb rfl;have e2:=ay (i:=2) hxb rfl;have f0:=bO (i:=0) hxb;have f1:=bO (i:=1) hxb;have f2:=bO (i:=2) hxb;obtain⟨W5,jX⟩:=af (((w2.setCell ⟨gb,0,none⟩ (.int .i64 T1)).setCell ⟨gb,1,none⟩ (.int .i64 N1)).setCell ⟨gb,2,none⟩ (.slice la R1.length lc));have hx5:=Lib.heap_setCell_same (i:=2) (Lib.heap_setCell_same (i:=1) (Lib.heap_setCell_same (i:=0) hxb (.int .i64 T1)) (.int .i64 N1)) (.slice la R1.length lc);have hbt:But gb w2 (((w2.setCell ⟨gb,0,none⟩ (.int .i64 T1)).setCell ⟨gb,1,none⟩ (.int .i64 N1)).setCell ⟨gb,2,none⟩ (.slice la R1.length lc)):=((But.set _ _ _).trans (But.set _ _ _)).trans (But.set _ _ _);rw[jX]at hx5 hbt;have hb5:Below w.heap.size w W5:=hb2.trans (hbt.below HX.out.2.2.2 hb2.size);have S5:=HS.out W5 hb5
   have H5:Hid (W5.heap[gb]?=some (.cells #[.int .i64 T1,.int .i64 N1,.slice la R1.length lc] 27 (0,0))/\Below w.heap.size w W5/\lD W5 w.heap.size (.slice la R1.length lc) R1):=by
    refine⟨hx5,hb5,?_⟩;have hz2:=HX.out.2.1;have hz3:=HX.out.2.2.2;exact hr2.on (by omega) hbt.size λk h1 h2=>hbt.block k h2 (by omega)
   have Ci:Hid (((w2.setCell ⟨gb,0,none⟩ (.int .i64 T1)).setCell ⟨gb,1,none⟩ (.int .i64 N1)).setCell ⟨gb,2,none⟩ (.slice la R1.length lc)=W5):=jX;clear hx5 hbt hb5 hxb hr2 h2 hb2 jX;refine aC.one (i:=22) (by kernel_rfl) ⟨_,rfl,λK hK=> ?_⟩
   go_simp
   rw[Ci.out];refine hK.out _ _ (λ_=>⟨S5.1,S5.2.1⟩) ?_;clear hK;refine aC.last (i:=23) (by kernel_rfl) ⟨_,rfl,λK hK=> ?_⟩
   go_simp
   refine hK.out _ _ (λh=>absurd h (by omega)) (NoPanic.normal ?_);clear hK
   go_wp2_with fail
   go_meet
   case rel=>exact⟨gb,la,lc,rfl,rfl,H5.out.1,H5.out.2.1,H5.out.2.2⟩
 case rest=>
  obtain⟨gb,la',lc',rfl,rfl,hx,hB,hR⟩:=hcut;have u0:=ay (i:=0) hx rfl;have u1:=ay (i:=1) hx rfl;have u2:=ay (i:=2) hx rfl;obtain⟨M9,hP⟩:=HE.out;rcases HV.out with⟨hx0,T2,N2,rfl,rfl,hm,hp1,ho1⟩|⟨hx0,hxi,hp1,ho1⟩
  ·subst hx0
   have tk:=aar (hP.later hB) hR M9 hm;have H4:Hid (But pb w wc/\kC p s=⟨p.tx,T2,N2,R1⟩/\kV p s=bY [111,107] [(R1.length:Int)]):=⟨But.of pb hB,hp1,ho1⟩;clear hP hx hB hR hp1 ho1 hm
   go_wp2_with
    (go_at_call 9;refine tk.mono ?_;rintro e w5 ⟨rfl,h5,h6⟩
     have H5:Hid (dZ w5 pb w.heap.size (.slice la' R1.length lc') ⟨p.tx,T2,N2,R1⟩/\But pb wc w5):=⟨h5,h6⟩
     clear tk h5 h6)
   go_ret;exact⟨by rw[H4.out.2.2];rfl,⟨_,_,by rw[H4.out.2.1];exact H5.out.1⟩,H4.out.1.trans H5.out.2⟩
  ·have b1:(x==0)=false:=by simpa using hx0
   have td:=Dn (u:=[98,97,100]) (x:=x) (by simp) (by simp) hxi wc;have H2:Hid (Below w.heap.size w wc/\dZ wc pb B (.slice ra p.R.length rc) p/\kC p s=p/\kV p s=bY [98,97,100] [x]):=⟨hB,hP.later hB,hp1,ho1⟩;clear hP hx hB hR hx0 hxi hp1 ho1 u0 u1 u2
   go_wp2_with
    (go_at_call 7;refine td.mono ?_;rintro e w4 ⟨rfl,h4⟩
     have H4:Hid (Below wc.heap.size wc w4):=h4
     clear td h4)
   go_ret;exact⟨by rw[H2.out.2.2.2];rfl,⟨B,.slice ra p.R.length rc,by rw[H2.out.2.2.1];exact H2.out.2.1.later H4.out⟩,(But.of pb H2.out.1).trans (But.of pb H4.out)⟩
end
section
variable{w w':World}{pb B:Nat}{rv:Value}{p:bW}{la:Option Addr}{ln lc:Nat}
theorem aiA(h:dZ w pb B rv p)(hm:aJ p.T p.N p.R=true):Calls Tryz.prog 11 #[.pointer (some ⟨pb,0,none⟩),.string ⟨#[115,101,116,115]⟩,.slice la ln lc] w λe w'=> ∃o,wK p o/\e= .returned (.string ⟨o.toArray⟩)/\Below w.heap.size w w':=by
 obtain⟨c0,c1,c2,-⟩:=h.cells;obtain⟨ra,rc,aI⟩:=h.rules.at.1;subst aI;have hpb:=h.below;obtain⟨hT,hN1,hN,_,_⟩:=iD hm;have HE:Hid (pb<w.heap.size/\p.T<=8/\p.N<=12/\dZ w pb B (.slice ra p.R.length rc) p):=⟨hpb,hT,hN,h⟩;obtain⟨N,wL⟩:=af p.N
 have st:Calls Tryz.prog 19 #[.agg #[.int .i64 p.T,.int .i64 p.N,.slice ra p.R.length rc]] w λe w'=> ∃na nc fa fc ga gc Y,e= .returned (.tuple #[.agg #[.slice na N nc,.slice fa N fc,.slice ga N gc],.int .i64 0])/\Below w.heap.size w w'/\qi p.T p.N p.R Y/\bit Y .gr 0=false/\kg w' (.slice na N nc) (Y .null)/\oN w' (.slice fa N fc) ((List.range p.N).map λn=>Y (.f n))/\oN w' (.slice ga N gc) ((List.range p.N).map λn=>Y (.g n)):=by
  refine(Qk (T:=p.T) (N:=p.N) h.rules.at hm).mono λe w' ⟨nv,fv,gv,vf,vg,h1,h2,gb,B',Y,h3,h4,h5,h6,h7,h8⟩=> ?_;have k1:=LU h6;have k2:=Qm h6 h7;have k3:=X6 h6 h8;obtain⟨na,nc,hn⟩:=k1.1;obtain⟨fa,fc,hf⟩:=k2.1;obtain⟨ga,gc,hg⟩:=k3.1;have hl:=h4.dw .null p.N rfl;rw[hl,wL]at hn;rw[cK,qR,wL]at hf hg;subst hn hf hg;exact⟨na,nc,fa,fc,ga,gc,Y,h1,h2,h4,h5,k1,k2,k3⟩
 have HN:Hid (p.N=N):=wL;rw[wL]at c1 st;clear h hm wL
 go_enter Tryz.func11,Tryz.ntmps11
 go_upto_region 4 with
  (go_at_call 19;refine st.mono ?_;rintro e w2 ⟨na,nc,fa,fc,ga,gc,Y,rfl,h2,h4,h5,k1,k2,k3⟩
   clear st)
 obtain⟨q,hq⟩:=af w2.heap.size;obtain⟨W3,hW⟩:=af (w2.alloc (.cells #[.slice na N nc,.slice fa N fc,.slice ga N gc] 64));have hb3:Below w2.heap.size w2 W3:=by rw[<-hW];exact(ai _ _).alloc (ah _) _
 have hx3:=heap_alloc_new w2 (.cells #[.slice na N nc,.slice fa N fc,.slice ga N gc] 64);rw[hW,hq]at hx3;rw[hW];rw[hq];have h3:=h2.trans (hb3.mono h2.size);have zV:∀wq,Below W3.heap.size W3 wq->∀b o,b<w2.heap.size->wq.cell? ⟨b,o,none⟩=w2.cell? ⟨b,o,none⟩:=λwq hw b o hb=>pI ((hw.block b (jg hb hb3.size)).trans (hb3.block b hb))
 have HS:Hid (∀wq,Below W3.heap.size W3 wq->(wq.cell? ⟨pb,1,none⟩=some (.int .i64 N)/\wq.cell? ⟨q,0,none⟩=some (.slice na N nc)/\wq.cell? ⟨q,1,none⟩=some (.slice fa N fc)/\wq.cell? ⟨q,2,none⟩=some (.slice ga N gc))/\Below w.heap.size w wq/\kg wq (.slice na N nc) (Y .null)/\oN wq (.slice fa N fc) ((List.range N).map λn=>Y (.f n))/\oN wq (.slice ga N gc) ((List.range N).map λn=>Y (.g n))):=λwq hw=>by
  have hy:=(hw.block _ (dx.1 hx3).1).trans hx3;have hc:=(HE.out.2.2.2.later (h3.trans (hw.mono h3.size))).cells.2.1;rw[HN.out]at hc;exact⟨⟨hc,ay hy rfl,ay hy rfl,ay hy rfl⟩,h3.trans (hw.mono h3.size),k1.same (zV wq hw),k2.same (zV wq hw),k3.same (zV wq hw)⟩
 have HY:Hid (qi p.T N p.R Y/\bit Y .gr 0=false):=⟨h4,h5⟩;have aid:N<=12:=by have:=HE.out.2.2.1;have:=HN.out;omega
 obtain⟨⟨sp,s0,s1,s2⟩,-,-⟩:=HS.out W3 (ai _ _);clear h2 h3 h4 h5 k1 k2 k3 hq hW hb3 hx3 zV
 go_wp2_with fail
 clear sp s0 s1 s2
 go_loopw [9,10] (λv9 v10 wr=> ∃(i:Nat) (t:List UInt8),v9= .string ⟨t.toArray⟩/\v10= .int .i64 i/\i<=N/\Below W3.heap.size W3 wr/\t=gU [] (nZ Y i)) (λ_ v _=>N-(intOf v).toNat)
 case atStart=>exact⟨0,[],rfl,rfl,aP _,ai _ _,rfl⟩
 case round=>
  obtain⟨i,t,rfl,rfl,hi,hB,ht⟩:=hrel;by_cases hlt:i<N
  ·have d1:decide ((i:Int)<(N:Int))=true:=aT (by omega)
   obtain⟨⟨sp,s0,s1,s2⟩,-,hb,hf,hg⟩:=HS.out wr hB;have hnl:=HY.out.1.dw .null N rfl;obtain⟨ng,no,Qa,e1,e2⟩:=hb.2 i (by omega);obtain rfl:na=some ⟨ng,no,none⟩:=by injection e1
   obtain⟨fg,fo,XE,fr,e3,e4,zW⟩:=hf.2 i (by simpa using hlt);obtain rfl:fa=some ⟨fg,fo,none⟩:=by injection e3
   obtain⟨gg,go',gc',gr,e5,e6,hgb⟩:=hg.2 i (by simpa using hlt);obtain rfl:ga=some ⟨gg,go',none⟩:=by injection e5
   rw[show ((List.range N).map λn=>Y (.f n)).getD i []=Y (.f i) by simp[List.getD,hlt]]at zW;rw[show ((List.range N).map λn=>Y (.g n)).getD i []=Y (.g i) by simp[List.getD,hlt]]at hgb;obtain⟨Dj,Dk,hfr⟩:=zW.1;obtain⟨Dl,Dm,hgr⟩:=hgb.1;subst hfr hgr;have hfl:(Y (.f i)).length=p.T:=HY.out.1.dw (.f i) p.T (by simp[bP,hlt]);have hgl:(Y (.g i)).length=p.T+1:=HY.out.1.dw (.g i) (p.T+1) (by simp[bP,hlt]);have hT8:=HE.out.2.1;obtain⟨nb,hnb⟩:=af ((Y .null).getD i false);rw[hnb]at e2
   have HM:Hid (zU Y i=[(fI [nb]:Int),(fI (Y (.f i)):Int),(fI (Y (.g i)):Int)]):=by
    show _=_;unfold zU bit;rw[hnb]
   have gM:Hid (∀wq,Below wr.heap.size wr wq->(wq.cell? ⟨q,1,none⟩=some (.slice (some ⟨fg,fo,none⟩) N fc)/\wq.cell? ⟨q,2,none⟩=some (.slice (some ⟨gg,go',none⟩) N gc)/\wq.cell? ⟨fg,fo+i,none⟩=some (.slice Dj (Y (.f i)).length Dk)/\wq.cell? ⟨gg,go'+i,none⟩=some (.slice Dl (Y (.g i)).length Dm))/\kg wq (.slice Dj (Y (.f i)).length Dk) (Y (.f i))/\kg wq (.slice Dl (Y (.g i)).length Dm) (Y (.g i))):=λwq hq=>by
    have hc:∀b o,b<wr.heap.size->wq.cell? ⟨b,o,none⟩=wr.cell? ⟨b,o,none⟩:=λb o hb=>pI (hq.block b hb);exact⟨⟨(hc _ _ (aQ _ _ s1)).trans s1,(hc _ _ (aQ _ _ s2)).trans s2,(hc _ _ (aQ _ _ e4)).trans e4,(hc _ _ (aQ _ _ e6)).trans e6⟩,zW.same hc,hgb.same hc⟩
   have HO:Hid (Below W3.heap.size W3 wr/\t=gU [] (nZ Y i)):=⟨hB,ht⟩;have HL:Hid ((Y (.f i)).length<=1000/\(Y (.g i)).length<=1000):=⟨by omega,by omega⟩;clear hb hf hg e1 e3 e5 zW hgb hnl hfl hgl hnb hB ht s1 s2 e4 e6
   have hlen:t.length<=100000:=by
    have:=RU (nZ Y i) [] (Nb HY.out.1 HE.out.2.1 i (by omega));rw[Na,<-HO.out.2]at this;simp only[List.length_nil]at this;omega
   obtain⟨k1,hk1⟩:=af (fI [nb]);obtain⟨k2,hk2⟩:=af (fI (Y (.f i)));obtain⟨k3,hk3⟩:=af (fI (Y (.g i)));rw[hk1,hk2,hk3]at HM
   have HK:Hid (eY (k1:Int)/\eY (k2:Int)/\eY (k3:Int)):=by
    have h1:=BJ [nb];have h2:=BJ (Y (.f i));have h3:=BJ (Y (.g i));have h4:=HL.out;simp only[List.length_cons,List.length_nil]at h1;exact⟨⟨by omega,by omega⟩,⟨by omega,by omega⟩,⟨by omega,by omega⟩⟩
   have j0:(0:Int)<=(i:Int):=aF _;have j1:(i:Int)<(N:Int):=by omega
   have HF:Hid (fI [nb]=k1/\fI (Y (.f i))=k2/\fI (Y (.g i))=k3):=⟨hk1,hk2,hk3⟩;clear hk1 hk2 hk3
   go_upto_if 49 with fail
   go_cut [11] from 50 to 65 (λs11 wx=>s11= .int .i64 (k1:Int)/\wx=wr)
   case first=>
    cases nb with
    |false=>
     obtain rfl:k1=0:=HF.out.1.symm
     go_wp2_with fail
     go_meet
     case rel=>exact⟨rfl,rfl⟩
    |true=>
     obtain rfl:k1=1:=HF.out.1.symm
     go_wp2_with fail
     go_meet
     case rel=>exact⟨rfl,rfl⟩
   case rest=>
    obtain⟨rfl,rfl⟩:=hcut;clear sp s0 e2
    go_upto_region 11 with fail
    obtain⟨Wd,hWd⟩:=af wc.drew;have hBd:Below wc.heap.size wc Wd:=by rw[<-hWd];exact(ai _ _).drew
    obtain⟨S0,hf1,hg1⟩:=gM.out Wd hBd;have n2:=aap hf1 HL.out.1;have n3:=aap hg1 HL.out.2;rw[HF.out.2.1]at n2;rw[HF.out.2.2]at n3;obtain⟨Wc,hWc⟩:=af (Wd.alloc (.cells #[.int .i64 (k1:Int),.int .i64 (k2:Int),.int .i64 (k3:Int)] 3));have mX:Below wc.heap.size wc Wc:=by rw[<-hWc];exact hBd.alloc hBd.size _
    have hxc:=heap_alloc_new Wd (.cells #[.int .i64 (k1:Int),.int .i64 (k2:Int),.int .i64 (k3:Int)] 3);rw[hWc]at hxc;have S2:=(gM.out Wc mX).1
    have sd:=JE (w:=Wc) (u:=t) (dv:= .slice (some ⟨Wd.heap.size,0,none⟩) 3 3) (D:=[(k1:Int),(k2:Int),(k3:Int)]) hlen ⟨⟨_,_,rfl⟩,λj hj=>by
     have hz:=(dx.1 hxc).1;have hj':j=0\/j=1\/j=2:=by simp at hj;omega
     rcases hj' with rfl|rfl|rfl<;>exact⟨Wd.heap.size,0,3,rfl,hz,ay hxc rfl⟩⟩ (by simp) (λy hy=>by
     simp only[iW,wS,wY]at hy;rcases hy with rfl|rfl|rfl
     ·exact HK.out.1
     ·exact HK.out.2.1
     ·exact HK.out.2.2)
    obtain⟨t2,ht2⟩:=af (gU t [(k1:Int),(k2:Int),(k3:Int)]);rw[ht2]at sd
    have HT:Hid (gU [] (nZ Y (i+1))=t2):=by
     show _=_;rw[FB,aan,<-HO.out.2,HM.out,ht2]
    have HC:Hid (Below W3.heap.size W3 Wc/\Below wc.heap.size wc Wc):=⟨HO.out.1.trans (mX.mono HO.out.1.size),mX⟩;clear hBd hf1 hg1 mX hxc ht2 hlen;refine mK [0,1,2,3,4,5,6,8,9,10,11,12] 5 16 (λwq=>wq.cell? ⟨q,1,none⟩=some (.slice (some ⟨fg,fo,none⟩) N fc)/\wq.cell? ⟨q,2,none⟩=some (.slice (some ⟨gg,go',none⟩) N gc)/\wq.cell? ⟨fg,fo+i,none⟩=some (.slice Dj (Y (.f i)).length Dk)/\wq.cell? ⟨gg,go'+i,none⟩=some (.slice Dl (Y (.g i)).length Dm)) (by kernel_rfl) (by kernel_rfl) (by rw[hWd];exact S0) ?_;rw[hWd];clear hWd
    iterate 12
     refine aW.yT (v:= ?_) rfl (by rfl) ?_ ?_;rotate_left
     ·intro w' hSw
      obtain⟨z0,z1,z2,z3⟩:=hSw
      go_simp
      try with_reducible rfl
     simp only[Act.put,eB,List.set_cons_zero,List.set_cons_succ]
    rw[aW];refine aC.one (i:=7) (by kernel_rfl) ⟨_,rfl,λK hK=> ?_⟩
    go_simp
    refine n2.mono ?_;rintro e w4 ⟨rfl,h4⟩;obtain rfl:Wd=w4:=h4.symm;dsimp only;refine hK.out _ _ (λ_=>S0) ?_;clear hK n2;refine aC.one (i:=13) (by kernel_rfl) ⟨_,rfl,λK hK=> ?_⟩
    go_simp
    refine n3.mono ?_;rintro e w4 ⟨rfl,h4⟩;obtain rfl:Wd=w4:=h4.symm;dsimp only;refine hK.out _ _ (λ_=>S0) ?_;clear hK n3;refine aC.one (i:=14) (by kernel_rfl) ⟨_,rfl,λK hK=> ?_⟩
    go_simp
    refine hK.out _ _ (λ_=>S2) ?_;clear hK hWc S0;refine aC.one (i:=15) (by kernel_rfl) ⟨_,rfl,λK hK=> ?_⟩
    go_simp
    refine sd.mono ?_;rintro e w9 ⟨rfl,h9⟩;dsimp only;have hb9:=HC.out.2.trans (h9.mono HC.out.2.size);refine hK.out _ _ (λ_=>(gM.out w9 hb9).1) ?_;have H9:Hid (Below W3.heap.size W3 w9):=HC.out.1.trans (h9.mono HC.out.1.size);clear hK sd h9 hb9 S2;refine aC.last (i:=16) (by kernel_rfl) ⟨_,rfl,λK hK=> ?_⟩
    go_simp
    refine hK.out _ _ (λh=>absurd h (by omega)) (NoPanic.normal ?_);clear hK
    go_wp2_with fail
    go_roundw
    case rel=>exact⟨i+1,t2,rfl,by go_num,by omega,H9.out,HT.out.symm⟩
    case measure=>simp[intOf];omega
  ·have d1:decide ((i:Int)<(N:Int))=false:=aU (by omega)
   obtain rfl:i=N:=by omega
   obtain⟨⟨sp,-,-,-⟩,hbw,-⟩:=HS.out wr hB;have HO:Hid (wK p t/\Below w.heap.size w wr):=⟨⟨Y,by rw[HN.out];exact HY.out.1,HY.out.2,by rw[HN.out,<-Nh];exact ht⟩,hbw⟩;clear hB hbw ht
   go_wp2_with fail
   go_ret;exact⟨_,HO.out.1,rfl,HO.out.2⟩
end
theorem aas{c:UInt8}:∀{u:List UInt8},(∀b∈u,b≠c)->splitB c u=[u]
 | [],_=>rfl
 |b::l,h=>by
  have hb:(b==c)=false:=by simpa using h b (List.mem_cons_self ..)
  rw[splitB,hb,aas λx hx=>h x (mH _ hx)];simp
theorem aat{c:UInt8}{r:List UInt8}:∀{u:List UInt8},(∀b∈u,b≠c)->splitB c (u++c::r)=u::splitB c r
 | [],_=>by simp[splitB]
 |b::l,h=>by
  have hb:(b==c)=false:=by simpa using h b (List.mem_cons_self ..)
  rw[List.cons_append,splitB,hb,aat λx hx=>h x (mH _ hx)];simp
theorem Ni(c:UInt8):∀s:List UInt8,(splitB c s).length<=s.length+1
 | []=>by simp[splitB]
 |b::l=>by
  have:=Ni c l;rw[splitB];split
  ·simp;omega
  ·simp;omega
def wM(P:List (List UInt8)):List Value:=P.map λl=> .string ⟨l.toArray⟩
theorem Tryz.infoStr9:(Tryz.prog.info? 9).map (λi=>(i.zero,i.size,i.bytes))=some (some (.string ⟨#[]⟩),1,16):=by kernel_rfl
theorem JF(s:List UInt8)(f i:Nat):(⟨s.toArray⟩:ByteArray).extract f i=⟨((s.take i).drop f).toArray⟩:=by
 apply ByteArray.ext;simp[ByteArray.data_extract,List.drop_take]
structure yF(s:List UInt8)(c:UInt8)(P:List (List UInt8))(f i:Nat):Prop where
 le:f<=i
 len:P.length<=i
 all:splitB c s=P++splitB c (s.drop f)
 no:∀b∈(s.take i).drop f,b≠c
section
variable{s:List UInt8}{c:UInt8}{P:List (List UInt8)}{f i:Nat}
theorem aiB(hf:f<=i)(hi:i<s.length):(s.take (i+1)).drop f=(s.take i).drop f++[s.getD i 0]:=by
 rw[fT hi,FI (by simp;omega)];simp[List.getD,hi]
theorem yF.go(h:yF s c P f i)(hi:i<s.length)(hc:s.getD i 0≠c):yF s c P f (i+1):=by
 refine⟨by have:=h.le;omega,by have:=h.len;omega,h.all,λb hb=> ?_⟩;rw[aiB h.le hi,iV,gG]at hb;rcases hb with hb|hb
 ·exact h.no b hb
 ·rw[hb];exact hc
theorem aiC(hf:f<=i)(hi:i<=s.length):s.drop f=(s.take i).drop f++s.drop i:=by
 conv=>lhs;rw[<-wT i s]
 rw[FI (by simp;omega)]
theorem yF.cut(h:yF s c P f i)(hi:i<s.length)(hc:s.getD i 0=c):yF s c (P++[(s.take i).drop f]) (i+1) (i+1):=by
 refine⟨ah _,by simp;exact h.len,?_,λb hb=>by simp at hb⟩;rw[h.all,aiC h.le (iQ hi),wO hi,show s[i]=c by rw[<-hc];simp[List.getD,hi],aat h.no];simp
theorem yF.last(h:yF s c P f i)(hi:i=s.length):splitB c s=P++[(s.take i).drop f]:=by
 have h1:=h.no;rw[hi,gH]at h1;rw[h.all,aas h1,hi,gH]
theorem aau(w:World)(s:List UInt8)(c:UInt8)(hs:s.length<=2000000):Calls Tryz.prog 4 #[.string ⟨s.toArray⟩,.int .u8 (c.toNat:Int)] w λe w'=> ∃v,e= .returned v/\w'.ownsRow w.heap.size 9 1 v (splitB c s).length (wM (splitB c s))/\Below w.heap.size w w':=by
 go_enter Tryz.func4,Tryz.ntmps4
 go_wp2_with fail
 go_loopw [5,6,7] (λs5 s6 s7 wr=> ∃(lv:Value) (P:List (List UInt8)) (f i:Nat),lv=s5/\s6= .int .i64 f/\s7= .int .i64 i/\((i<=s.length/\yF s c P f i)\/(i=s.length+1/\P=splitB c s))/\wr.ownsRow w.heap.size 9 1 lv P.length (wM P)/\Below w.heap.size w wr) (λ_ _ v _=>s.length+1-(intOf v).toNat)
 case atStart=>exact⟨_,[],0,0,rfl,rfl,rfl,.inl ⟨aP _,⟨ah _,by simp,by simp,λb hb=>by simp at hb⟩⟩,ji ..,ai _ _⟩
 case round=>
  obtain⟨lv,P,f,i,rfl,rfl,rfl,hI,hO,hB⟩:=hrel;have HO:Hid (wr.ownsRow w.heap.size 9 1 lv P.length (wM P)/\Below w.heap.size w wr):=⟨hO,hB⟩;clear hO hB;rcases hI with⟨hi,hI⟩|⟨hi,hP⟩
  ·have HI:Hid (yF s c P f i):=hI
   have hfi:=hI.le;clear hI;have d1:decide ((i:Int)<=(s.length:Int))=true:=aT (by omega);by_cases hl:i=s.length
   ·have e1:((i:Int)==(s.length:Int))=true:=by simp[hl]
    have HL:Hid (i=s.length):=hl;clear hl;have bV:=(HO.out.1).alloc (.cells #[.string ⟨((s.take i).drop f).toArray⟩] 9);have hb5:w.heap.size<=(wr.alloc (.cells #[.string ⟨((s.take i).drop f).toArray⟩] 9)).heap.size:=by have:=HO.out.2.size;simp;omega
    have hnw:=jh (cs:= #[.string ⟨((s.take i).drop f).toArray⟩]) (t:=9) (fr:=(0,0)) (heap_alloc_new wr (.cells #[.string ⟨((s.take i).drop f).toArray⟩] 9));obtain⟨i5,hi5,kW,kX,lY⟩:=fK Tryz.infoStr9;have m1:P.length+1<=maxLen:=by unfold maxLen;have:=HI.out.len;omega
    have m2:(P.length+1)*16<=140737488355328:=by have:=HI.out.len;omega
    have hex:=JF s f i;have q1:(0:Int)<=(f:Int):=by omega
    have q2:(f:Int)<=(i:Int):=by have:=HI.out.le;omega
    have q3:(i:Int)<=(s.length:Int):=by omega
    have HB:Hid (Below w.heap.size w (wr.alloc (.cells #[.string ⟨((s.take i).drop f).toArray⟩] 9))):=HO.out.2.alloc HO.out.2.size _;obtain⟨pt,hpt⟩:=af ((s.take i).drop f);rw[hpt]at bV hb5 hnw hex HB;have HP:Hid ((s.take i).drop f=pt):=hpt;clear hpt
    go_wp2_with
     (at_builtin
      refine ow _ rfl _ _ _ rfl w.heap.size 9 i5 _ 1 16 Tryz.underlying22 hi5 kW kX lY rfl (by omega) lv P.length (wM P) rfl bV
       ⟨wr.heap.size,0,none⟩ 1 1 [.string ⟨pt.toArray⟩] rfl rfl hnw (by simp[Value.oneCell']) (by omega) m1 m2 hb5 (wr.heap.size+1) (by simp) ?_
      intro g9 pJ w9 kG iX qX sQ;have H9:Hid (w9.ownsRow w.heap.size 9 1 (.slice (some ⟨g9,0,none⟩) (P.length+1) pJ) (P.length+1) (wM P++[.string ⟨pt.toArray⟩])/\Below w.heap.size w w9):=⟨kG,HB.out.grown iX hb5 λk hk=>(bV.lt k hk).1⟩
      clear kG iX qX sQ bV hb5 hnw hi5 kW kX lY m1 m2)
    go_roundw
    case rel=>
     refine⟨_,P++[pt],i+1,i+1,rfl,by go_num,by go_num,.inr ⟨by rw[HL.out],?_⟩,?_,H9.out.2⟩
     ·rw[<-HP.out];exact(HI.out.last HL.out).symm
     ·have:=H9.out.1
      simpa [wM] using this
    case measure=>simp[intOf];omega
   ·have hlt:i<s.length:=by omega
    have e1:((i:Int)==(s.length:Int))=false:=by simp;omega
    obtain⟨x,hx⟩:=af (s.getD i 0)
    have hbx:(⟨s.toArray⟩:ByteArray)[i]'(by simpa [ByteArray.size] using hlt)=x:=by
     rw[<-hx];simp[ByteArray.getElem_eq_getElem_data,List.getD,hlt]
    have k0:(0:Int)<=(i:Int):=aF _;have k1:(i:Int)<(s.length:Int):=by omega
    by_cases hc:x=c
    ·have HX:Hid (s.getD i 0=c):=hx.trans hc
     subst hc;clear hx hl;have bV:=(HO.out.1).alloc (.cells #[.string ⟨((s.take i).drop f).toArray⟩] 9);have hb5:w.heap.size<=(wr.alloc (.cells #[.string ⟨((s.take i).drop f).toArray⟩] 9)).heap.size:=by have:=HO.out.2.size;simp;omega
     have hnw:=jh (cs:= #[.string ⟨((s.take i).drop f).toArray⟩]) (t:=9) (fr:=(0,0)) (heap_alloc_new wr (.cells #[.string ⟨((s.take i).drop f).toArray⟩] 9));obtain⟨i5,hi5,kW,kX,lY⟩:=fK Tryz.infoStr9;have m1:P.length+1<=maxLen:=by unfold maxLen;have:=HI.out.len;omega
     have m2:(P.length+1)*16<=140737488355328:=by have:=HI.out.len;omega
     have hex:=JF s f i;have q1:(0:Int)<=(f:Int):=by omega
     have q2:(f:Int)<=(i:Int):=by have:=HI.out.le;omega
     have q3:(i:Int)<=(s.length:Int):=by omega
     have HB:Hid (Below w.heap.size w (wr.alloc (.cells #[.string ⟨((s.take i).drop f).toArray⟩] 9))):=HO.out.2.alloc HO.out.2.size _;obtain⟨pt,hpt⟩:=af ((s.take i).drop f);rw[hpt]at bV hb5 hnw hex HB;have HP:Hid ((s.take i).drop f=pt):=hpt;clear hpt
     go_wp2_with
      (at_builtin
       refine ow _ rfl _ _ _ rfl w.heap.size 9 i5 _ 1 16 Tryz.underlying22 hi5 kW kX lY rfl (by omega) lv P.length (wM P) rfl bV
        ⟨wr.heap.size,0,none⟩ 1 1 [.string ⟨pt.toArray⟩] rfl rfl hnw (by simp[Value.oneCell']) (by omega) m1 m2 hb5 (wr.heap.size+1) (by simp) ?_
       intro g9 pJ w9 kG iX qX sQ;have H9:Hid (w9.ownsRow w.heap.size 9 1 (.slice (some ⟨g9,0,none⟩) (P.length+1) pJ) (P.length+1) (wM P++[.string ⟨pt.toArray⟩])/\Below w.heap.size w w9):=⟨kG,HB.out.grown iX hb5 λk hk=>(bV.lt k hk).1⟩
       clear kG iX qX sQ bV hb5 hnw hi5 kW kX lY m1 m2)
     go_roundw
     case rel=>
      refine⟨_,P++[pt],i+1,i+1,rfl,by go_num,by go_num,.inl ⟨by omega,?_⟩,?_,H9.out.2⟩
      ·rw[<-HP.out];exact HI.out.cut hlt HX.out
      ·have:=H9.out.1
       simpa [wM] using this
     case measure=>simp[intOf];omega
    ·have HX:Hid (s.getD i 0≠c):=by rw[hx];exact hc
     have z1:¬(x.toNat:Int)=(c.toNat:Int):=λe=>hc (UInt8.toNat_inj.1 (by omega));have z2:((x.toNat:Int)==(c.toNat:Int))=false:=by simpa using z1
     clear hx hl hc
     go_wp2_with fail
     go_roundw
     case rel=>exact⟨_,P,f,i+1,rfl,rfl,by go_num,.inl ⟨by omega,HI.out.go hlt HX.out⟩,HO.out.1,HO.out.2⟩
     case measure=>simp[intOf];omega
  ·have d1:decide ((i:Int)<=(s.length:Int))=false:=aU (by omega)
   have HP:Hid (P=splitB c s):=hP;clear hP
   go_wp2_with fail
   go_ret;exact⟨_,rfl,by rw[<-HP.out];exact HO.out.1,HO.out.2⟩
end
theorem aiD{l:List UInt8}(h:Lib.hasPrefix l [61,32]=true):2<=l.length/\l.take 2=[61,32]/\Lib.trimPrefix l [61,32]=l.drop 2:=by
 have h1:[61,32]<+:l:=List.isPrefixOf_iff_prefix.1 h;obtain⟨t,rfl⟩:=h1;refine⟨by simp,by simp,?_⟩;unfold Lib.trimPrefix;rw[au h];simp
theorem aiE{l:List UInt8}(h:Lib.hasPrefix l [61,32]=false):l.length<2\/(2<=l.length/\(l.take 2==[61,32])=false):=by
 by_cases hl:l.length<2
 ·exact .inl hl
 ·refine .inr ⟨by omega,mI.2 λe=> ?_⟩
  have h1:Lib.hasPrefix l [61,32]=true:=List.isPrefixOf_iff_prefix.2 ⟨l.drop 2,by rw[<-e];exact wT 2 l⟩;rw[h]at h1;cases h1
section
variable{w w':World}{pb B:Nat}{rv:Value}{p:bW}{l:List UInt8}
theorem aiF(h:dZ w pb B rv p)(hl:l.length<=2000000)(ht:p.tx.length<=100000000)(hp:Lib.hasPrefix l [61,32]=true):Calls Tryz.prog 5 #[.pointer (some ⟨pb,0,none⟩),.string ⟨l.toArray⟩] w λe w'=>e= .returned (.string ⟨(bY [111,107] [((p.tx++(Lib.trimPrefix l [61,32]++[10])).length:Int)]).toArray⟩)/\dZ w' pb B rv { p with tx:=p.tx++(Lib.trimPrefix l [61,32]++[10]) }/\But pb w w':=by
 obtain⟨h2,h3,h4⟩:=aiD hp;rw[h4];have hx1:(⟨l.toArray⟩:ByteArray).extract 0 2=⟨#[61,32]⟩:=by rw[JF,om,h3]
 have hx2:(⟨l.toArray⟩:ByteArray).extract 2 l.length=⟨(l.drop 2).toArray⟩:=by rw[JF,gH]
 have htl:(l.drop 2).length<=2000000:=by simp;omega
 obtain⟨t,htt⟩:=af (l.drop 2);rw[htt]at hx2 htl⊢;have add1:=qY (P:=Tryz.prog) p.tx t (by omega);obtain⟨y,hy⟩:=af (p.tx++t);have hyl:y.length<=102000000:=by rw[<-hy,aS];omega
 rw[hy]at add1;have add2:=qY (P:=Tryz.prog) y [10] (by simp;omega);rw[<-mG,hy];obtain⟨T,hT⟩:=af (y++[10]);have NU:T.length<=102000001:=by rw[<-hT,aS];simp;omega
 rw[hT]at add2⊢;obtain⟨-,-,-,c3,-⟩:=h.cells;have f3:=bO (i:=3) h.at_;obtain⟨W1,hW1⟩:=af ((w.setCell ⟨pb,3,none⟩ (.string ⟨T.toArray⟩)).drew);have hbd:Below (w.setCell ⟨pb,3,none⟩ (.string ⟨T.toArray⟩)).heap.size (w.setCell ⟨pb,3,none⟩ (.string ⟨T.toArray⟩)) W1:=by rw[<-hW1];exact(ai _ _).drew
 have h1:=(h.text T).later hbd;have hb1:But pb w W1:=(But.set _ _ _).trans (But.of pb hbd);obtain⟨-,-,-,c31,-⟩:=h1.cells;have abx:W1.cell? ⟨pb,3,none⟩=some (.string ⟨T.toArray⟩):=c31;have td:=Dn (u:=[111,107]) (x:=(T.length:Int)) (by simp) (by simp) ⟨by omega,by omega⟩ W1;have d1:decide ((2:Int)<=(l.length:Int))=true:=aT (by omega);have d2:decide (2<=l.length)=true:=aT h2;have q2:(2:Int)<=(l.length:Int):=by omega
 have HP:Hid (dZ W1 pb B rv { p with tx:=T }/\But pb w W1):=⟨h1,hb1⟩;have HW:Hid ((w.setCell ⟨pb,3,none⟩ (.string ⟨T.toArray⟩)).drew=W1):=hW1;clear h hT NU hy hyl h1 hb1 c31 hW1 hbd hp h3 h4 htt
 go_enter Tryz.func5,Tryz.ntmps5
 go_upto_region 2 with fail
 go_region
 go_upto_region 3 with fail
 rw[HW.out];clear HW c3 f3
 go_wp2_with
  (go_at_call 7;refine td.mono ?_;rintro e w3 ⟨rfl,h3⟩
   have H3:Hid (Below W1.heap.size W1 w3):=h3
   clear td h3)
 go_ret;exact⟨rfl,HP.out.1.later H3.out,HP.out.2.trans (But.of pb H3.out)⟩
end
def kD(l:List UInt8):List UInt8:=(splitB 32 l).headD []
def Dp(l:List UInt8)(F:List Int):Bool:=l==[115,101,116,115]||l==[115,104,111,114,116]||l==[116,97,98,108,101]||l==[115,104,111,119]||kD l==[104,97,115]||kD l==[112,97,114,115,101]||kD l==[115,116,101,112]&&F.length==4
structure Nj(l:List UInt8):Prop where
 pre:Lib.hasPrefix l [61,32]=false
 fr:l≠[102,114,101,115,104]
 ta:l≠[116,97,107,101]
section
variable{p p':bW}{l o:List UInt8}{F:List Int}
theorem Nk(T N:Int)(R:List Ru)(F:List Int):eZ T N R (F.take 31)=eZ T N R F:=by
 by_cases h:F.length<=31
 ·rw[pG h]
 ·unfold eZ
  rw[au (show 30<(F.take 31).length by simp;omega),au (show 30<F.length by omega)]
theorem RV{T N:Int}{R:List Ru}(h:eZ T N R F=0):F.take 31=F:=by
 refine pG ?_;unfold eZ at h;split at h
 ·cases h
 ·split at h
  ·cases h
  ·omega
theorem kS.cap(h:kS p F o):kS p (F.take 31) o:=by
 rcases h with⟨h1,h2⟩|⟨h1,h2⟩
 ·exact .inl ⟨by rw[Nk];exact h1,by rw[Nk];exact h2⟩
 ·rw[RV h1];exact .inr ⟨h1,h2⟩
theorem nC.cap(h:nC p F o):nC p (F.take 31) o:=by
 obtain⟨a,h1,h2⟩:=h;refine⟨a,?_,h2⟩;rcases h1 with h1|⟨K,h3,h4,⟨h5,h6⟩|⟨h5,h6⟩|⟨h5,h6⟩⟩
 ·exact .inl h1
 ·exact .inr ⟨K,h3,h4,.inl ⟨by rw[Nk];exact h5,by rw[Nk];exact h6⟩⟩
 ·rw[RV h5];exact .inr ⟨K,h3,h4,.inr (.inl ⟨h5,h6⟩)⟩
 ·rw[RV h5];exact .inr ⟨K,h3,h4,.inr (.inr ⟨h5,h6⟩)⟩
theorem aiG(h:Nj l)(hw:lm (splitB 32 l).tail=none):dN p l p [63]:=by
 have e:=aak l;rw[hw]at e
 have no:∀x:List UInt8,lZ x=some (x,[])->l≠x:=λx hx hl=>by
  rw[hl,hx]at e;cases e
 unfold dN;rw[aj (by rw[h.pre];simp),aj h.fr,aj h.ta,aj (no _ rfl),aj (no _ rfl),aj (no _ rfl),aj (no _ rfl),e];exact⟨rfl,rfl⟩
theorem aav(h:Nj l)(hw:lm (splitB 32 l).tail=some F):(Dp l F=false/\dN p l p [63])\/(Dp l F=true/\(p.N=0->dN p l p [110,111,110,101])/\
 ((kD l=[115,101,116,115]/\∀o,p.N≠0->wK p o->dN p l p o)\/(kD l=[115,104,111,114,116]/\∀O,p.N≠0->nM p.N p.R O->dN p l p (iB O))\/(kD l=[116,97,98,108,101]/\∀o,p.N≠0->uh p o->dN p l p o)\/(kD l=[115,104,111,119]/\(p.N≠0->dN p l p (iB [((nP p.T p.N p.R).length:Int)])))\/
  (kD l=[104,97,115]/\∀o,p.N≠0->kS p F o->dN p l p o)\/(kD l=[112,97,114,115,101]/\∀o,p.N≠0->nC p F o->dN p l p o)\/
  (kD l=[115,116,101,112]/\∃s:Stp,F=[s.op,s.a,s.b,s.c]/\(p.N≠0->dN p l (kC p s) (kV p s))))):=by
 have e:=aak l;rw[hw]at e;have eH:∀{X:List UInt8->Prop} {o:List UInt8},p.N≠0->X o->jN p X p o:=λhN hX=>⟨rfl,by rw[aj hN];exact hX⟩;have eN:∀{X:List UInt8->Prop},p.N=0->jN p X p [110,111,110,101]:=λhN=>⟨rfl,by rw[au hN]⟩;have ans:=λp' o=>dN.eq_1 p l p' o;simp only[h.pre,dO,bN,aj h.fr,aj h.ta]at ans;unfold Dp;by_cases h0:l=[115,101,116,115]
 ·simp only[au h0]at ans
  exact .inr ⟨by simp[h0],λhN=>by rw[ans];exact eN hN,.inl ⟨by rw[h0];rfl,λo hN hX=>by rw[ans];exact eH hN hX⟩⟩
 simp only[aj h0]at ans;by_cases h1:l=[115,104,111,114,116]
 ·simp only[au h1]at ans
  exact .inr ⟨by simp[h1],λhN=>by rw[ans];exact eN hN,.inr (.inl ⟨by rw[h1];rfl,λo hN hX=>by rw[ans];exact eH hN ⟨o,hX,rfl⟩⟩)⟩
 simp only[aj h1]at ans;by_cases h2:l=[116,97,98,108,101]
 ·simp only[au h2]at ans
  exact .inr ⟨by simp[h2],λhN=>by rw[ans];exact eN hN,.inr (.inr (.inl ⟨by rw[h2];rfl,λo hN hX=>by rw[ans];exact eH hN hX⟩))⟩
 simp only[aj h2]at ans;by_cases h3:l=[115,104,111,119]
 ·simp only[au h3]at ans
  exact .inr ⟨by simp[h3],λhN=>by rw[ans];exact eN hN,.inr (.inr (.inr (.inl ⟨by rw[h3];rfl,λhN=>by rw[ans];exact eH hN rfl⟩)))⟩
 simp only[aj h3]at ans;have b0:(l==[115,101,116,115])=false:=mI.2 h0;have b1:(l==[115,104,111,114,116])=false:=mI.2 h1;have b2:(l==[116,97,98,108,101])=false:=mI.2 h2;have b3:(l==[115,104,111,119])=false:=mI.2 h3;have e':lZ l=some (kD l,F.take 31):=e;simp only[e']at ans;simp only[b0,b1,b2,b3,Dq];by_cases h4:kD l=[104,97,115]
 ·simp only[au h4]at ans
  exact .inr ⟨by simp[h4],λhN=>by rw[ans];exact eN hN,.inr (.inr (.inr (.inr (.inl ⟨h4,λo hN hX=>by rw[ans];exact eH hN hX.cap⟩))))⟩
 simp only[aj h4]at ans;by_cases h5:kD l=[112,97,114,115,101]
 ·simp only[au h5]at ans
  exact .inr ⟨by simp[h5],λhN=>by rw[ans];exact eN hN,.inr (.inr (.inr (.inr (.inr (.inl ⟨h5,λo hN hX=>by rw[ans];exact eH hN hX.cap⟩)))))⟩
 simp only[aj h5]at ans;have b4:(kD l==[104,97,115])=false:=mI.2 h4;have b5:(kD l==[112,97,114,115,101])=false:=mI.2 h5;simp only[b4,b5,Dq];by_cases h6:kD l=[115,116,101,112]/\F.length=4
 ·have h7:F.take 31=F:=pG (by omega)
  rw[h7]at ans;simp only[au h6]at ans
  obtain⟨a,b,c,d,rfl⟩:∃a b c d,F=[a,b,c,d]:=by
   match F,h6.2 with
   | [a,b,c,d],_=>exact⟨a,b,c,d,rfl⟩
  exact .inr ⟨by simp[h6.1],λhN=>by rw[ans,au hN];exact⟨rfl,rfl⟩,.inr (.inr (.inr (.inr (.inr (.inr ⟨h6.1,⟨a,b,c,d⟩,rfl,λhN=>by rw[ans,aj hN];exact⟨rfl,rfl⟩⟩)))))⟩
 ·have h8:¬(kD l=[115,116,101,112]/\(F.take 31).length=4):=λhh=>h6 ⟨hh.1,by have:=hh.2;simp at this;omega⟩
  simp only[aj h8]at ans;refine .inl ⟨?_,by rw[ans];exact⟨rfl,rfl⟩⟩;by_cases h9:kD l=[115,116,101,112]
  ·have:F.length≠4:=λe=>h6 ⟨h9,e⟩
   simp[h9,this]
  ·simp[h9]
end
section
variable{w:World}{pb B:Nat}{rv:Value}{p:bW}{l:List UInt8}{F:List Int}{fa:Option Addr}{fc:Nat}
theorem aiH(h:dZ w pb B rv p)(hN:p.N≠0)(hl:aY w w.heap.size (.slice fa F.length fc) F)(hn:Nj l)(hw:lm (splitB 32 l).tail=some F)(hk:Dp l F=true):Calls Tryz.prog 11 #[.pointer (some ⟨pb,0,none⟩),.string ⟨(kD l).toArray⟩,.slice fa F.length fc] w λe w'=> ∃o p' B' rv',dN p l p' o/\e= .returned (.string ⟨o.toArray⟩)/\dZ w' pb B' rv' p'/\But pb w w':=by
 have hm:aJ p.T p.N p.R=true:=h.good.resolve_left hN;rcases aav (p:=p) hn hw with⟨h1,-⟩|⟨-,-,⟨e,h2⟩|⟨e,h2⟩|⟨e,h2⟩|⟨e,h2⟩|⟨e,h2⟩|⟨e,h2⟩|⟨e,s,h3,h2⟩⟩
 ·rw[hk]at h1;cases h1
 ·rw[e];exact(aiA h hm).mono λ_ _ ⟨o,h3,h4,h5⟩=>⟨o,p,B,rv,h2 o hN h3,h4,h.later h5,But.of pb h5⟩
 ·rw[e];exact(aiv h hm).mono λ_ _ ⟨o,h3,h4,h5⟩=>⟨_,p,B,rv,h2 o hN h3,h4,h.later h5,But.of pb h5⟩
 ·rw[e];exact(aiy h hm).mono λ_ _ ⟨o,h3,h4,h5⟩=>⟨o,p,B,rv,h2 o hN h3,h4,h.later h5,But.of pb h5⟩
 ·rw[e];exact(aiu h hm).mono λ_ _ ⟨h4,h5⟩=>⟨_,p,B,rv,h2 hN,h4,h.later h5,But.of pb h5⟩
 ·rw[e];exact(aiw h hm hl).mono λ_ _ ⟨o,h3,h4,h5⟩=>⟨o,p,B,rv,h2 o hN h3,h4,h.later h5,But.of pb h5⟩
 ·rw[e];exact(aix h hm hl).mono λ_ _ ⟨o,h3,h4,h5⟩=>⟨o,p,B,rv,h2 o hN h3,h4,h.later h5,But.of pb h5⟩
 ·subst h3
  rw[e];exact(aiz (s:=s) h hm hl).mono λ_ _ ⟨h4,⟨B',rv',h5⟩,h6⟩=>⟨_,_,B',rv',h2 hN,h4,h5,h6⟩
end
end Go.Proofs.YthbifaoaiggooaaGreatDoor

import Derived.Test.YtpkmpkphfflpjaaGreatTrOverAndStLast
set_option maxHeartbeats 3200000
set_option maxRecDepth 100000
namespace Go.Proofs.YtpkmpkphfflpjaaGreat
open Go.RowKit
def kY(P:Nat->Fo->Prop):Fo->Prop
 | .no=>True
 | .nd q ks ts=>P q ks/\kY P ks/\kY P ts
theorem DW{P:Nat->Fo->Prop}{q':Nat}{ks':Fo}:∀{t:Fo},kY P t->uy q' ks' t->P q' ks'/\kY P ks'
 | .nd _ _ _,h,hm=>by
  rcases hm with⟨rfl,rfl⟩|hm
  ·exact⟨h.1,h.2.1⟩
  ·exact DW h.2.2 hm
def xw(sz:Nat)(T N o a b c:Int)(ra:Option Addr)(rl rc fr up:Nat)(q:Nat)(kv:Value)(wq:World):Prop:=
 wq.cell? ⟨sz,0,none⟩=some (.int .i64 T)/\wq.cell? ⟨sz,1,none⟩=some (.int .i64 N)/\wq.cell? ⟨sz,2,none⟩=some (.slice ra rl rc)/\wq.cell? ⟨sz,3,none⟩=some (.int .i64 o)/\wq.cell? ⟨sz,4,none⟩=some (.int .i64 a)/\wq.cell? ⟨sz,5,none⟩=some (.int .i64 b)/\wq.cell? ⟨sz,6,none⟩=some (.int .i64 c)/\wq.cell? ⟨sz,7,none⟩=some (.int .i64 (fr:Int))/\wq.cell? ⟨sz,8,none⟩=some (.int .i64 (up:Int))/\wq.cell? ⟨sz+1,0,none⟩=some (.int .i64 (q:Int))/\wq.cell? ⟨sz+1,1,none⟩=some kv
section
variable{T N o b c:Int}{ra:Option Addr}{rl rc fr m ka:Nat}
theorem Z4:∀(n:Nat) (w:World) (q:Nat) (ks:Fo) (kv:Value) (A:Nat->Prop),(ai ks).length<n->(q=ka->fr+m<=aS ks)->kY (fun q ks=>q=ka->fr+m<=aS ks) ks->(ai ks).length<=2000->aG w A kv ks->(∀b,A b->b<w.heap.size)->
 Calls Tryz.prog 139 #[.agg #[.int .i64 T,.int .i64 N,.slice ra rl rc,.int .i64 o,.int .i64 (ka:Int),.int .i64 b,.int .i64 c,.int .i64 (fr:Int),.int .i64 ((fr+m:Nat):Int)],.agg #[.int .i64 (q:Int),kv]] w fun e w'=> ∃kv',e= .returned (.agg #[.int .i64 (q:Int),kv'])/\aG w' (fun b=>A b\/w.heap.size<=b) kv' (if q=ka then mU fr m rl (fP ka rl fr m ks) else fP ka rl fr m ks)/\Below w.heap.size w w':=by
 intro n
 induction n with
 |zero=>intro _ _ _ _ _ h;omega
 |succ n ih=>
 intro w q ks kv A hn hqk hall hl hk hA;have hk1:=hk;obtain⟨aW,kc,hkv,_⟩:=hk1;obtain⟨n1,hn1⟩:∃n,aS ks=n:=⟨_,rfl⟩;rw[hn1]at hkv hqk;subst hkv;obtain⟨up,hup⟩:∃up,fr+m=up:=⟨_,rfl⟩;rw[hup]at hqk⊢;obtain⟨W,hW⟩:∃W,((w.alloc (.cells #[.int .i64 T,.int .i64 N,.slice ra rl rc,.int .i64 o,.int .i64 (ka:Int),.int .i64 b,.int .i64 c,.int .i64 (fr:Int),.int .i64 (up:Int)] 110)).alloc (.cells #[.int .i64 (q:Int),.slice aW n1 kc] 73)).alloc (.cells #[.int .i64 0,.slice none 0 0] 73)=W:=⟨_,rfl⟩;have hM:=oh hW
 have HS:Hid (∀wq,Below W.heap.size W wq->xw w.heap.size T N o ka b c ra rl rc fr up q (.slice aW n1 kc) wq/\wq.heap[w.heap.size+1+1]?=some (.cells #[.int .i64 0,.slice none 0 0] 73 (0,0))):=fun wq h1=>by
  have hc:=(h1.block _ (by have:=hM.size;omega)).trans hM.fG;have ht:=(h1.block _ (by have:=hM.size;omega)).trans hM.gV;exact⟨⟨ah hc rfl,ah hc rfl,ah hc rfl,ah hc rfl,ah hc rfl,ah hc rfl,ah hc rfl,ah hc rfl,ah hc rfl,ah ht rfl,ah ht rfl⟩,(h1.block _ (by have:=hM.size;omega)).trans hM.res⟩
 obtain⟨x0,x1,x2,x3,x4,x5,x6,x7,x8,x9,x10⟩:=(HS.out W (Below.refl _ _)).1
 have ea:=AY (w:=W) (A:=A) (v:= .slice aW n1 kc) (recv:= .agg #[.int .i64 T,.int .i64 N,.slice ra rl rc,.int .i64 o,.int .i64 (ka:Int),.int .i64 b,.int .i64 c,.int .i64 (fr:Int),.int .i64 (up:Int)]) (dn:=139) (F:=fun q ks=>(q,if q=ka then mU fr m rl (fP ka rl fr m ks) else fP ka rl fr m ks)) (G:=fP ka rl fr m) (fun args w'=>by simp[callFunc,Tryz.func139,Tryz.f139 ]) rfl (fun _ _ _=>rfl) (hk.below hM.below) (fun b hb=>Nat.lt_of_lt_of_le (hA b hb) hM.below.size) (by omega) fun w' q' ks' kv' hm hb' hk' hA'=>by
  have:=sj hm;have h2:=DW hall hm;have:=ih w' q' ks' kv' A (by omega) h2.1 h2.2 (by omega) hk' hA';rw[hup]at this;exact this
 have HM:Hid (Below w.heap.size w W/\w.heap.size+3<=W.heap.size):=⟨hM.below,by have:=hM.size;omega⟩;have HA:Hid (∀b,A b->b<w.heap.size):=hA;have HK:Hid (fr+m=up/\aS (fP ka rl fr m ks)=n1/\n1<=2000):=⟨hup,(Qp ka rl fr m ks).trans hn1,by obtain⟨L,hL,_⟩:=hk.list;have:=qj L;rw[hL]at this;have h3:=nK L;rw[hL]at h3;omega⟩;clear ih hn hall hl hk hA hM hn1 hup;by_cases eF:q=ka
 ·subst eF
  have hfu:=hqk rfl;rw[if_pos rfl];clear hqk
  go_enter Tryz.func139,Tryz.ntmps139
  go_upto_region 4 with
   (go_at_call 141;refine ea.mono ?_;rintro e w2 ⟨rv,L',rfl,bP,hG2,hB2⟩
    obtain⟨la,lc,hlv⟩:=aY bP.own;subst hlv;obtain⟨z0,z1,z2,z3,z4,z5,z6,z7,z8,z9,jK⟩:=(HS.out w2 hB2).1;have HT:Hid (gu w2 W.heap.size A (.slice la L'.length lc) L'/\rowOf L'=fP q rl fr m ks/\Below W.heap.size W w2):=⟨bP,hG2,hB2⟩;have hLn:L'.length=n1:=by rw[<-HK.out.2.1,<-hG2,nK]
    rw[hLn];rw[hLn]at HT
    clear ea bP hG2 hB2 x0 x1 x2 x3 x4 x5 x6 x7 x8 x9 x10 hW)
  have hcap:n1<=lc:=by
   rcases HT.out.1.own.2 with⟨h0,h00⟩|⟨g,cap,cur,hg,_,_,hle,_⟩
   ·injection h0 with _ h1 h2;omega
   ·injection hg with _ _ hg3;omega
  obtain⟨A3,hmid,hmid'⟩:=Rp (la:=la) (f:=fr) (n:=m) (g:=up) (sl:=n1) (lc:=lc) (fi:=(fr:Int)) (gi:=(up:Int)) rfl rfl HK.out.1.symm (by omega);have Mc:Hid (lc≠fr->A3=la.map (·.add (fr*2))):=hmid';clear hmid' z0 z1 z2 z3 z4 z5 z6 z7 z8 z9 jK
  go_cut [6] from 23 to 33 (fun s6 wx=> ∃p,s6= .pointer (some ⟨p,0,none⟩)/\w2.heap.size<=p/\wx.cell? ⟨p,0,none⟩=some (.int .i64 (rl:Int))/\wx.cell? ⟨p,1,none⟩=some (.slice A3 m (lc-fr))/\Below w2.heap.size w2 wx)
  case first=>
   obtain⟨Wd,hWd⟩:∃V,w2.drew=V:=⟨_,rfl⟩;have hBd:Below w2.heap.size w2 Wd:=by rw[<-hWd];exact(Below.refl _ _).drew
   have aO:Hid (∀wq,Below Wd.heap.size Wd wq->xw w.heap.size T N o q b c ra rl rc fr up q (.slice aW n1 kc) wq/\Below w2.heap.size w2 wq):=fun wq hq=>by
    have h1:Below w2.heap.size w2 wq:=hBd.trans (hq.mono hBd.size);exact⟨(HS.out wq (HT.out.2.2.trans (h1.mono HT.out.2.2.size))).1,h1⟩
   have S0:=(aO.out Wd (Below.refl _ _)).1;have eP:Hid (w2.heap.size<=Wd.heap.size):=hBd.size;clear hBd;refine iw [0,1,3,4,5,6,7,8] 4 11 (xw w.heap.size T N o q b c ra rl rc fr up q (.slice aW n1 kc)) (by kernel_rfl) (by kernel_rfl) (by rw[hWd];exact S0) ?_;rw[hWd];clear hWd S0
   iterate 8
    refine aU.gN (v:= ?_) rfl (by rfl) ?_ ?_;rotate_left
    ·intro w' hSw
     obtain⟨z0,z1,z2,z3,z4,z5,z6,z7,z8,z9,jK⟩:=hSw
     go_simp
     try with_reducible rfl
    simp only[Act.put,List.setIfInBounds_toArray,List.set_cons_zero,List.set_cons_succ]
   rw[aU];refine ax.two (i:=2) (i':=10) (by kernel_rfl) ⟨_,rfl,fun K hK=> ?_⟩ ⟨_,rfl,fun K hK=> ?_⟩
   ·have su:=H7 (w:=Wd) (T:=T) (N:=N) (ra:=ra) (rn:=rl) (rc:=rc) (op:=o) (a:=q) (b:=b) (c:=c)
    go_simp
    refine su.mono ?_;rintro e w3 ⟨rfl,hB3⟩;dsimp only;refine hK.out _ _ (fun _=>(aO.out w3 hB3).1) ?_;clear hK su;refine ax.read (i:=9) (v:= .agg #[.int .i64 (rl:Int),.slice A3 m (lc-fr)]) rfl (by kernel_rfl) (by rfl) (fun w' _=>by unfold execOp;go_simp) (aO.out w3 hB3).1 ?_;simp only[Act.put,List.setIfInBounds_toArray,List.set_cons_zero,List.set_cons_succ];have aP:Below Wd.heap.size Wd (w3.alloc (.cells #[.int .i64 0,.slice none 0 0] 73)):=hB3.alloc hB3.size _;refine ax.one (i:=10) (by kernel_rfl) ⟨_,rfl,fun K hK=> ?_⟩
    go_simp
    refine hK.out _ _ (fun _=>(aO.out _ aP).1) ?_;clear hK;have hres:=heap_alloc_new w3 (.cells #[.int .i64 0,.slice none 0 0] 73);obtain⟨pz,hpz⟩:∃x,w3.heap.size=x:=⟨_,rfl⟩;obtain⟨wz,hwz⟩:∃V,w3.alloc (.cells #[.int .i64 0,.slice none 0 0] 73)=V:=⟨_,rfl⟩;have HP:Hid (w2.heap.size<=pz):=by show _<=_;rw[<-hpz];exact Nat.le_trans eP.out hB3.size
    rw[hwz,hpz]at hres;rw[hwz]at aP⊢;rw[hpz];have y0:wz.cell? ⟨pz,0,none⟩=some (.int .i64 0):=ah hres rfl;have y1:wz.cell? ⟨pz,1,none⟩=some (.slice none 0 0):=ah hres rfl;have eB:wz.frozen? ⟨pz,0,none⟩=false:=bE hres;have eD:wz.frozen? ⟨pz,1,none⟩=false:=bE hres
    have HE:Hid (((wz.setCell ⟨pz,0,none⟩ (.int .i64 (rl:Int))).setCell ⟨pz,1,none⟩ (.slice A3 m (lc-fr))).cell? ⟨pz,0,none⟩=some (.int .i64 (rl:Int))/\((wz.setCell ⟨pz,0,none⟩ (.int .i64 (rl:Int))).setCell ⟨pz,1,none⟩ (.slice A3 m (lc-fr))).cell? ⟨pz,1,none⟩=some (.slice A3 m (lc-fr))/\Below w2.heap.size w2 ((wz.setCell ⟨pz,0,none⟩ (.int .i64 (rl:Int))).setCell ⟨pz,1,none⟩ (.slice A3 m (lc-fr)))):=
     ⟨kW hres,kX hres,((aO.out wz aP).2.setCell (by have:=HP.out;simp only;omega) _).setCell (by have:=HP.out;simp only;omega) _⟩
    clear hwz hpz hB3 aP hres;refine ax.last (i:=11) (by kernel_rfl) ⟨_,rfl,fun K hK=> ?_⟩
    go_simp
    refine hK.out _ _ (fun h=>absurd h (by omega)) (NoPanic.normal ?_);clear hK
    go_wp2_with fail
    go_meet
    case rel=>exact⟨pz,rfl,HP.out,HE.out.1,HE.out.2.1,HE.out.2.2⟩
   ·have cZ:Below Wd.heap.size Wd (Wd.alloc (.cells #[.int .i64 0,.slice none 0 0] 73)):=(Below.refl _ _).alloc (Nat.le_refl _) _
    go_simp
    refine hK.out _ _ (fun _=>(aO.out _ cZ).1) ?_;clear hK;have hres:=heap_alloc_new Wd (.cells #[.int .i64 0,.slice none 0 0] 73);obtain⟨pz,hpz⟩:∃x,Wd.heap.size=x:=⟨_,rfl⟩;obtain⟨wy,kZ⟩:∃V,Wd.alloc (.cells #[.int .i64 0,.slice none 0 0] 73)=V:=⟨_,rfl⟩;have HP:Hid (w2.heap.size<=pz/\pz=Wd.heap.size):=⟨by rw[<-hpz];exact eP.out,hpz.symm⟩;rw[kZ]at cZ hres⊢;rw[hpz]at hres⊢;clear kZ hpz;have su:=H7 (w:=wy) (T:=T) (N:=N) (ra:=ra) (rn:=rl) (rc:=rc) (op:=o) (a:=q) (b:=b) (c:=c);refine ax.one (i:=2) (by kernel_rfl) ⟨_,rfl,fun K hK=> ?_⟩
    go_simp
    refine su.mono ?_;rintro e wz ⟨rfl,hB3⟩;dsimp only;have aP:Below Wd.heap.size Wd wz:=cZ.trans (hB3.mono cZ.size);refine hK.out _ _ (fun _=>(aO.out wz aP).1) ?_;clear hK su;have hres:=(hB3.block _ (Array.getElem?_eq_some_iff.1 hres).1).trans hres;refine ax.one (i:=9) (by kernel_rfl) ⟨_,rfl,fun K hK=> ?_⟩
    go_simp
    refine hK.out _ _ (fun _=>(aO.out _ aP).1) ?_;clear hK;have y0:wz.cell? ⟨pz,0,none⟩=some (.int .i64 0):=ah hres rfl;have y1:wz.cell? ⟨pz,1,none⟩=some (.slice none 0 0):=ah hres rfl;have eB:wz.frozen? ⟨pz,0,none⟩=false:=bE hres;have eD:wz.frozen? ⟨pz,1,none⟩=false:=bE hres
    have HE:Hid (((wz.setCell ⟨pz,0,none⟩ (.int .i64 (rl:Int))).setCell ⟨pz,1,none⟩ (.slice A3 m (lc-fr))).cell? ⟨pz,0,none⟩=some (.int .i64 (rl:Int))/\((wz.setCell ⟨pz,0,none⟩ (.int .i64 (rl:Int))).setCell ⟨pz,1,none⟩ (.slice A3 m (lc-fr))).cell? ⟨pz,1,none⟩=some (.slice A3 m (lc-fr))/\Below w2.heap.size w2 ((wz.setCell ⟨pz,0,none⟩ (.int .i64 (rl:Int))).setCell ⟨pz,1,none⟩ (.slice A3 m (lc-fr)))):=
     ⟨kW hres,kX hres,((aO.out wz aP).2.setCell (by have:=HP.out.1;simp only;omega) _).setCell (by have:=HP.out.1;simp only;omega) _⟩
    clear hB3 aP cZ hres;refine ax.last (i:=11) (by kernel_rfl) ⟨_,rfl,fun K hK=> ?_⟩
    go_simp
    refine hK.out _ _ (fun h=>absurd h (by omega)) (NoPanic.normal ?_);clear hK
    go_wp2_with fail
    go_meet
    case rel=>exact⟨pz,rfl,HP.out.1,HE.out.1,HE.out.2.1,HE.out.2.2⟩
  case rest=>
   obtain⟨p,rfl,hp,c0,c1,hBx⟩:=hcut
   go_upto_region 5 with fail
   obtain⟨Wd,hWd⟩:∃V,wc.drew=V:=⟨_,rfl⟩;have hBd:Below w2.heap.size w2 Wd:=by rw[<-hWd];exact hBx.drew
   have jw:Below wc.heap.size wc Wd:=by rw[<-hWd];exact(Below.refl _ _).drew
   have hW2:Below W.heap.size W Wd:=HT.out.2.2.trans (hBd.mono HT.out.2.2.size)
   have aO:Hid (∀wq,Below Wd.heap.size Wd wq->(xw w.heap.size T N o q b c ra rl rc fr up q (.slice aW n1 kc) wq/\wq.cell? ⟨p,0,none⟩=some (.int .i64 (rl:Int))/\wq.cell? ⟨p,1,none⟩=some (.slice A3 m (lc-fr)))/\Below W.heap.size W wq/\bU wq (fun b=>A b\/W.heap.size<=b) (.slice la n1 lc) L'):=fun wq hq=>by
    have h1:Below W.heap.size W wq:=hW2.trans (hq.mono hW2.size);have h2:Below wc.heap.size wc wq:=jw.trans (hq.mono jw.size);exact⟨⟨(HS.out wq h1).1,(h2.cell (World.block_lt_of_cell? _ _ c0)).trans c0,(h2.cell (World.block_lt_of_cell? _ _ c1)).trans c1⟩,h1,HT.out.1.kU.below (hBd.trans (hq.mono hBd.size))⟩
   have S0:=(aO.out Wd (Below.refl _ _)).1;obtain⟨nn,hnn⟩:∃nn,n1=up+nn:=⟨n1-up,by omega⟩;have AR:=fun w=>DV (la:=la) (f:=fr) (sl:=n1) (lc:=lc) (fi:=(fr:Int)) rfl (by have:=HK.out.1;omega) w;obtain⟨A4,hfro,o9⟩:=DU (la:=la) (f:=up) (n:=nn) (sl:=n1) (lc:=lc) (fi:=(up:Int)) rfl hnn;have yV:Hid (lc≠up->A4=la.map (·.add (up*2))):=o9;have uD:Hid (n1=up+nn):=hnn;have HW2:Hid (W.heap.size<=Wd.heap.size):=hW2.size;clear hBd jw hW2 hBx c0 c1 hp o9 hnn hmid;refine iw [0,1,2,3,4,5,6,8,9,10,11] 5 15 (fun wq=>xw w.heap.size T N o q b c ra rl rc fr up q (.slice aW n1 kc) wq/\wq.cell? ⟨p,0,none⟩=some (.int .i64 (rl:Int))/\wq.cell? ⟨p,1,none⟩=some (.slice A3 m (lc-fr))) (by kernel_rfl) (by kernel_rfl) (by rw[hWd];exact S0) ?_;rw[hWd];clear hWd S0
   iterate 11
    refine aU.gN (v:= ?_) rfl (by rfl) ?_ ?_;rotate_left
    ·intro w' hSw
     obtain⟨⟨z0,z1,z2,z3,z4,z5,z6,z7,z8,z9,jK⟩,H8,z12⟩:=hSw
     go_simp
     try with_reducible rfl
    simp only[Act.put,List.setIfInBounds_toArray,List.set_cons_zero,List.set_cons_succ]
   rw[aU];have aK:Below Wd.heap.size Wd (Wd.alloc (.cells #[.int .i64 (rl:Int),.slice A3 m (lc-fr)] 73)):=(Below.refl _ _).alloc (Nat.le_refl _) _;refine ax.one (i:=7) (by kernel_rfl) ⟨_,rfl,fun K hK=> ?_⟩
   go_simp
   refine hK.out _ _ (fun _=>(aO.out _ aK).1) ?_;clear hK;have hb6:=heap_alloc_new Wd (.cells #[.int .i64 (rl:Int),.slice A3 m (lc-fr)] 73);obtain⟨p6,sD⟩:∃x,Wd.heap.size=x:=⟨_,rfl⟩;obtain⟨w6,uE⟩:∃V,Wd.alloc (.cells #[.int .i64 (rl:Int),.slice A3 m (lc-fr)] 73)=V:=⟨_,rfl⟩;have DX:W.heap.size<=p6:=by rw[<-sD];exact HW2.out
   rw[uE]at aK hb6⊢;rw[sD]at hb6⊢;clear uE;have bD:Below w6.heap.size w6 (w6.alloc (.cells #[.slice la fr lc,.slice (some ⟨p6,0,none⟩) 1 1,.slice A4 nn (lc-up)] 71)):=(Below.refl _ _).alloc (Nat.le_refl _) _;have dh:Below Wd.heap.size Wd (w6.alloc (.cells #[.slice la fr lc,.slice (some ⟨p6,0,none⟩) 1 1,.slice A4 nn (lc-up)] 71)):=aK.trans (bD.mono aK.size);refine ax.one (i:=12) (by kernel_rfl) ⟨_,rfl,fun K hK=> ?_⟩
   go_simp
   refine hK.out _ _ (fun _=>(aO.out _ dh).1) ?_;clear hK;have dK:=heap_alloc_new w6 (.cells #[.slice la fr lc,.slice (some ⟨p6,0,none⟩) 1 1,.slice A4 nn (lc-up)] 71);obtain⟨p7,sH⟩:∃x,w6.heap.size=x:=⟨_,rfl⟩;obtain⟨w7,hw7⟩:∃V,w6.alloc (.cells #[.slice la fr lc,.slice (some ⟨p6,0,none⟩) 1 1,.slice A4 nn (lc-up)] 71)=V:=⟨_,rfl⟩;rw[hw7]at bD dh dK⊢;rw[sH]at dK⊢;have DY:=(bD.block _ (Array.getElem?_eq_some_iff.1 hb6).1).trans hb6;clear hw7 hb6;have pq:=(aO.out w7 dh).2.2
   have cc:=Hy (w:=w7) (pb:=p7) (A:=fun b=>A b\/W.heap.size<=b) (La:=L'.take fr) (Lb:=[(.slice A3 m (lc-fr),rl,rowOf ((L'.drop fr).take m))]) (Lc:=L'.drop up) (ah (i:=0) dK rfl) (ah (i:=1) dK rfl) (ah (i:=2) dK rfl)
    (by
      have h0:bU w7 (fun b=>A b\/W.heap.size<=b) (.slice la L'.length lc) L':=by rw[hLn];exact pq
      exact h0.take (by rw[hLn];have:=HK.out.1;omega))
    (by
      have h0:bU w7 (fun b=>A b\/W.heap.size<=b) (.slice la L'.length lc) L':=by rw[hLn];exact pq
      have h1:=h0.drop (f:=fr) (m:=n1-fr) (A:=A3) (by rw[hLn];have:=HK.out.1;omega) Mc.out;have hdl:(L'.drop fr).length=n1-fr:=by rw[List.length_drop,hLn]
      have h2:bU w7 (fun b=>A b\/W.heap.size<=b) (.slice A3 (L'.drop fr).length (lc-fr)) (L'.drop fr):=by rw[hdl];exact h1
      exact Hz DY (.inr DX) (h2.take (f:=m) (by rw[hdl];have:=HK.out.1;omega)).fo)
    (by
      have h0:bU w7 (fun b=>A b\/W.heap.size<=b) (.slice la L'.length lc) L':=by rw[hLn];exact pq
      exact h0.drop (by rw[hLn];exact uD.out) yV.out)
    (by have:=HK.out.2.2;simp only[List.length_take,List.length_drop,List.length_cons,List.length_nil];omega)
   clear pq DY dK DX sH sD aK bD;refine ax.one (i:=13) (by kernel_rfl) ⟨_,rfl,fun K hK=> ?_⟩
   go_simp
   refine cc.mono ?_;rintro e w8 ⟨a8,n8,d8,rfl,mX,gW⟩;dsimp only;have gX:Below Wd.heap.size Wd w8:=dh.trans (gW.mono dh.size);refine hK.out _ _ (fun _=>(aO.out _ gX).1) ?_;clear hK cc;have om:=(aO.out _ gX).2.1;have hres:=(HS.out w8 om).2;have y0:w8.cell? ⟨w.heap.size+1+1,0,none⟩=some (.int .i64 0):=ah hres rfl;have y1:w8.cell? ⟨w.heap.size+1+1,1,none⟩=some (.slice none 0 0):=ah hres rfl;have eB:w8.frozen? ⟨w.heap.size+1+1,0,none⟩=false:=bE hres;have eD:w8.frozen? ⟨w.heap.size+1+1,1,none⟩=false:=bE hres;have q0:=kW (v0:= .int .i64 (q:Int)) (v1:= .slice a8 n8 d8) hres;have q1:=kX (v0:= .int .i64 (q:Int)) (v1:= .slice a8 n8 d8) hres
   have HR:Hid (aG w8 (fun b=>A b\/W.heap.size<=b) (.slice a8 n8 d8) (mU fr m rl (fP q rl fr m ks))/\Below W.heap.size W w8):=by
    refine⟨?_,om⟩;have h1:=mX.fo
    have h2:rowOf (L'.take fr++[(Value.slice A3 m (lc-fr),rl,rowOf ((L'.drop fr).take m))]++L'.drop up)=mU fr m rl (fP q rl fr m ks):=by
     unfold mU;rw[<-HT.out.2.1,List.append_assoc,ul,AQ,List.singleton_append,rowOf,AQ,um,<-HK.out.1,<-List.drop_drop,um,um]
    rw[h2]at h1;refine h1.kept fun x hx _=>⟨rfl,?_⟩;rcases hx with hx|hx
    ·exact hx
    ·exact .inr (Nat.le_trans (Nat.le_trans HW2.out dh.size) hx)
   refine ax.one (i:=14) (by kernel_rfl) ⟨_,rfl,fun K hK=> ?_⟩
   go_simp
   refine hK.out _ _ (fun _=>(aO.out _ gX).1) ?_;clear hK mX gW gX dh om hres;refine ax.last (i:=15) (by kernel_rfl) ⟨_,rfl,fun K hK=> ?_⟩
   go_simp
   refine hK.out _ _ (fun h=>absurd h (by omega)) (NoPanic.normal ?_);clear hK
   go_wp2_with fail
   refine bodyPost_ret (v:= .agg #[.int .i64 (q:Int),.slice a8 n8 d8]) (by simp[results,Tryz.results139,go_sem,q0,q1]) rfl ?_;have hz:=HM.out.2;exact⟨_,rfl,HR.out.1.rz HA.out hz _ _,((HM.out.1.trans (HR.out.2.mono HM.out.1.size)).setCell (by simp;omega) _).setCell (by simp;omega) _⟩
 ·have hne:((q:Int)==(ka:Int))=false:=by simp;omega
  have hne2:decide ((q:Int)=(ka:Int))=false:=decide_eq_false (by omega);rw[if_neg eF];clear hqk
  go_enter Tryz.func139,Tryz.ntmps139
  go_wp2_with
   (go_at_call 141;refine ea.mono ?_;rintro e w2 ⟨rv,L',rfl,bP,hG2,hB2⟩
    obtain⟨la,lc,hlv⟩:=aY bP.own;subst hlv;obtain⟨n2,hn2⟩:∃n,L'.length=n:=⟨_,rfl⟩;rw[hn2]at bP⊢;obtain⟨z0,z1,z2,z3,z4,z5,z6,z7,z8,z9,jK⟩:=(HS.out w2 hB2).1;have hres:=(HS.out w2 hB2).2;have y0:w2.cell? ⟨w.heap.size+1+1,0,none⟩=some (.int .i64 0):=ah hres rfl;have y1:w2.cell? ⟨w.heap.size+1+1,1,none⟩=some (.slice none 0 0):=ah hres rfl;have eB:w2.frozen? ⟨w.heap.size+1+1,0,none⟩=false:=bE hres;have eD:w2.frozen? ⟨w.heap.size+1+1,1,none⟩=false:=bE hres;have q0:=kW (v0:= .int .i64 (q:Int)) (v1:= .slice la n2 lc) hres;have q1:=kX (v0:= .int .i64 (q:Int)) (v1:= .slice la n2 lc) hres
    have HT:Hid (aG w2 (fun b=>A b\/W.heap.size<=b) (.slice la n2 lc) (fP ka rl fr m ks)/\Below W.heap.size W w2):=by
     refine⟨?_,hB2⟩;have:=bP.kU.fo;rw[hG2]at this;exact this
    clear ea bP hG2 hB2 hn2 hres x0 x1 x2 x3 x4 x5 x6 x7 x8 x9 x10 hW)
  refine bodyPost_ret (v:= .agg #[.int .i64 (q:Int),.slice la n2 lc]) (by simp[results,Tryz.results139,go_sem,q0,q1]) rfl ?_;have hz:=HM.out.2;exact⟨_,rfl,HT.out.1.rz HA.out hz _ _,((HM.out.1.trans (HT.out.2.mono HM.out.1.size)).setCell (by simp;omega) _).setCell (by simp;omega) _⟩
end
section
variable{T N o b c:Int}{ra:Option Addr}{rl rc fr up ka:Nat}
theorem Z5:∀(n:Nat) (w:World) (q:Nat) (ks:Fo) (kv:Value) (A:Nat->Prop),(ai ks).length<n->(q=ka->fr<aS ks)->kY (fun q ks=>q=ka->fr<aS ks) ks->(ai ks).length<=2000->aG w A kv ks->(∀b,A b->b<w.heap.size)->
 Calls Tryz.prog 138 #[.agg #[.int .i64 T,.int .i64 N,.slice ra rl rc,.int .i64 o,.int .i64 (ka:Int),.int .i64 b,.int .i64 c,.int .i64 (fr:Int),.int .i64 (up:Int)],.agg #[.int .i64 (q:Int),kv]] w fun e w'=> ∃kv',e= .returned (.agg #[.int .i64 (q:Int),kv'])/\aG w' (fun b=>A b\/w.heap.size<=b) kv' (if q=ka then iA fr (dW ka fr ks) else dW ka fr ks)/\Below w.heap.size w w':=by
 intro n
 induction n with
 |zero=>intro _ _ _ _ _ h;omega
 |succ n ih=>
 intro w q ks kv A hn hqk hall hl hk hA;have hk1:=hk;obtain⟨aW,kc,hkv,_⟩:=hk1;obtain⟨n1,hn1⟩:∃n,aS ks=n:=⟨_,rfl⟩;rw[hn1]at hkv hqk;subst hkv;obtain⟨W,hW⟩:∃W,((w.alloc (.cells #[.int .i64 T,.int .i64 N,.slice ra rl rc,.int .i64 o,.int .i64 (ka:Int),.int .i64 b,.int .i64 c,.int .i64 (fr:Int),.int .i64 (up:Int)] 110)).alloc (.cells #[.int .i64 (q:Int),.slice aW n1 kc] 73)).alloc (.cells #[.int .i64 0,.slice none 0 0] 73)=W:=⟨_,rfl⟩;have hM:=oh hW
 have HS:Hid (∀wq,Below W.heap.size W wq->xw w.heap.size T N o ka b c ra rl rc fr up q (.slice aW n1 kc) wq/\wq.heap[w.heap.size+1+1]?=some (.cells #[.int .i64 0,.slice none 0 0] 73 (0,0))):=fun wq h1=>by
  have hc:=(h1.block _ (by have:=hM.size;omega)).trans hM.fG;have ht:=(h1.block _ (by have:=hM.size;omega)).trans hM.gV;exact⟨⟨ah hc rfl,ah hc rfl,ah hc rfl,ah hc rfl,ah hc rfl,ah hc rfl,ah hc rfl,ah hc rfl,ah hc rfl,ah ht rfl,ah ht rfl⟩,(h1.block _ (by have:=hM.size;omega)).trans hM.res⟩
 obtain⟨x0,x1,x2,x3,x4,x5,x6,x7,x8,x9,x10⟩:=(HS.out W (Below.refl _ _)).1
 have ea:=AY (w:=W) (A:=A) (v:= .slice aW n1 kc) (recv:= .agg #[.int .i64 T,.int .i64 N,.slice ra rl rc,.int .i64 o,.int .i64 (ka:Int),.int .i64 b,.int .i64 c,.int .i64 (fr:Int),.int .i64 (up:Int)]) (dn:=138) (F:=fun q ks=>(q,if q=ka then iA fr (dW ka fr ks) else dW ka fr ks)) (G:=dW ka fr) (fun args w'=>by simp[callFunc,Tryz.func138,Tryz.f138 ]) rfl (fun _ _ _=>rfl) (hk.below hM.below) (fun b hb=>Nat.lt_of_lt_of_le (hA b hb) hM.below.size) (by omega) fun w' q' ks' kv' hm hb' hk' hA'=>by
  have:=sj hm;have h2:=DW hall hm;exact ih w' q' ks' kv' A (by omega) h2.1 h2.2 (by omega) hk' hA'
 have HM:Hid (Below w.heap.size w W/\w.heap.size+3<=W.heap.size):=⟨hM.below,by have:=hM.size;omega⟩;have HA:Hid (∀b,A b->b<w.heap.size):=hA;have HK:Hid ((ai (dW ka fr ks)).length<=2000/\aS (dW ka fr ks)=n1/\n1<=2000):=⟨by have:=GY ka fr ks;omega,(GI ka fr ks).trans hn1,by obtain⟨L,hL,_⟩:=hk.list;have:=qj L;rw[hL]at this;have h3:=nK L;rw[hL]at h3;omega⟩;clear ih hn hall hl hk hA hM hn1;by_cases eF:q=ka
 ·subst eF
  have hfu:=hqk rfl;have hfr:fr<=2000:=by have:=HK.out.2.2;omega
  have i0:(0:Int)<=(fr:Int):=Int.natCast_nonneg _;have i1:(fr:Int)<(n1:Int):=by omega
  have hwr:IntKind.i64.wrap ((fr:Int)+1)=(fr:Int)+1:=IntWalk.i64_in _ (by omega);rw[if_pos rfl];clear hqk
  go_enter Tryz.func138,Tryz.ntmps138
  go_upto_region 5 with
   (go_at_call 141;refine ea.mono ?_;rintro e w2 ⟨rv,L',rfl,bP,hG2,hB2⟩
    obtain⟨la,lc,hlv⟩:=aY bP.own;subst hlv;have hLn:L'.length=n1:=by rw[<-HK.out.2.1,<-hG2,nK]
    have hfl:fr<L'.length:=by rw[hLn];exact hfu
    obtain⟨b1,o1,c1',hv,_,d1,d2⟩:=bP.kU.cells fr hfl;injection hv with hv1 _ hv3;subst hv1;subst hv3;obtain⟨z0,z1,z2,z3,z4,z5,z6,z7,z8,z9,jK⟩:=(HS.out w2 hB2).1;obtain⟨xa,xc,hxv,-⟩:=bP.kU.kids L'[fr] (List.getElem_mem hfl);obtain⟨⟨QM,q3,DZ⟩,hx3⟩:∃x,L'[fr]=x:=⟨_,rfl⟩;rw[hx3]at d1 d2 hxv;simp only at d1 d2 hxv;obtain⟨n3,jv⟩:∃n,aS DZ=n:=⟨_,rfl⟩;rw[jv]at hxv;subst hxv;have HT:Hid (gu w2 W.heap.size A (.slice (some ⟨b1,o1,none⟩) L'.length lc) L'/\rowOf L'=dW q fr ks/\Below W.heap.size W w2):=⟨bP,hG2,hB2⟩;have HX:Hid (∃h:fr<L'.length,L'[fr]'h=(.slice xa n3 xc,q3,DZ)):=⟨hfl,hx3⟩;have H9:Hid (L'.length=n1):=hLn;rw[hLn];rw[hLn]at HT
    clear ea bP hG2 hB2 x0 x1 x2 x3 x4 x5 x6 x7 x8 x9 x10 hW hx3 jv hfl hLn)
  have hcap:n1<=lc:=by
   rcases HT.out.1.own.2 with⟨h0,h00⟩|⟨g,cap,cur,hg,_,_,hle,_⟩
   ·injection h0 with _ h1 h2;omega
   ·injection hg with _ _ hg3;omega
  obtain⟨wc,hwc⟩:∃V,w2.alloc (.cells #[.int .i64 (q3:Int),.slice xa n3 xc] 73)=V:=⟨_,rfl⟩;have hBx:Below w2.heap.size w2 wc:=by rw[<-hwc];exact(Below.refl _ _).alloc (Nat.le_refl _) _
  have hcb:=heap_alloc_new w2 (.cells #[.int .i64 (q3:Int),.slice xa n3 xc] 73);obtain⟨p,hp⟩:∃x,w2.heap.size=x:=⟨_,rfl⟩;rw[hwc,hp]at hcb;rw[hwc];rw[hp];have c1:wc.cell? ⟨p,1,none⟩=some (.slice xa n3 xc):=ah (i:=1) hcb rfl;obtain⟨Wd,hWd⟩:∃V,wc.drew=V:=⟨_,rfl⟩;have hBd:Below w2.heap.size w2 Wd:=by rw[<-hWd];exact hBx.drew
  have jw:Below wc.heap.size wc Wd:=by rw[<-hWd];exact(Below.refl _ _).drew
  have hW2:Below W.heap.size W Wd:=HT.out.2.2.trans (hBd.mono HT.out.2.2.size)
  have aO:Hid (∀wq,Below Wd.heap.size Wd wq->(xw w.heap.size T N o q b c ra rl rc fr up q (.slice aW n1 kc) wq/\wq.cell? ⟨p,1,none⟩=some (.slice xa n3 xc))/\Below W.heap.size W wq/\bU wq (fun b=>A b\/W.heap.size<=b) (.slice (some ⟨b1,o1,none⟩) n1 lc) L'):=fun wq hq=>by
   have h1:Below W.heap.size W wq:=hW2.trans (hq.mono hW2.size);have h2:Below wc.heap.size wc wq:=jw.trans (hq.mono jw.size);exact⟨⟨(HS.out wq h1).1,(h2.cell (World.block_lt_of_cell? _ _ c1)).trans c1⟩,h1,HT.out.1.kU.below (hBd.trans (hq.mono hBd.size))⟩
  have S0:=(aO.out Wd (Below.refl _ _)).1;obtain⟨nn,hnn⟩:∃nn,n1=(fr+1)+nn:=⟨n1-(fr+1),by omega⟩;have AR:=fun w=>DV (la:=some ⟨b1,o1,none⟩) (f:=fr) (sl:=n1) (lc:=lc) (fi:=(fr:Int)) rfl (by omega) w;obtain⟨A4,hfro,o9⟩:=DU (la:=some ⟨b1,o1,none⟩) (f:=fr+1) (n:=nn) (sl:=n1) (lc:=lc) (fi:=(fr:Int)+1) (by omega) hnn;have yV:Hid (lc≠fr+1->A4=(some (⟨b1,o1,none⟩:Addr)).map (·.add ((fr+1)*2))):=o9;have uD:Hid (n1=(fr+1)+nn):=hnn;have HW2:Hid (W.heap.size<=Wd.heap.size):=hW2.size;clear hBd jw hW2 hBx c1 hp o9 hnn hcb hwc z0 z1 z2 z3 z4 z5 z6 z7 z8 z9 jK d1 d2;refine iw [0,1,2,3,4,5,6,7,8,9,10,11,12] 4 16 (fun wq=>xw w.heap.size T N o q b c ra rl rc fr up q (.slice aW n1 kc) wq/\wq.cell? ⟨p,1,none⟩=some (.slice xa n3 xc)) (by kernel_rfl) (by kernel_rfl) (by rw[hWd];exact S0) ?_;rw[hWd];clear hWd S0
  iterate 13
   refine aU.gN (v:= ?_) rfl (by rfl) ?_ ?_;rotate_left
   ·intro w' hSw
    obtain⟨⟨z0,z1,z2,z3,z4,z5,z6,z7,z8,z9,jK⟩,z12⟩:=hSw
    go_simp
    try with_reducible rfl
   simp only[Act.put,List.setIfInBounds_toArray,List.set_cons_zero,List.set_cons_succ]
  rw[aU];have dh:Below Wd.heap.size Wd (Wd.alloc (.cells #[.slice (some ⟨b1,o1,none⟩) fr lc,.slice xa n3 xc,.slice A4 nn (lc-(fr+1))] 71)):=(Below.refl _ _).alloc (Nat.le_refl _) _;refine ax.one (i:=13) (by kernel_rfl) ⟨_,rfl,fun K hK=> ?_⟩
  go_simp
  refine hK.out _ _ (fun _=>(aO.out _ dh).1) ?_;clear hK;have dK:=heap_alloc_new Wd (.cells #[.slice (some ⟨b1,o1,none⟩) fr lc,.slice xa n3 xc,.slice A4 nn (lc-(fr+1))] 71);obtain⟨p7,sH⟩:∃x,Wd.heap.size=x:=⟨_,rfl⟩;obtain⟨w7,hw7⟩:∃V,Wd.alloc (.cells #[.slice (some ⟨b1,o1,none⟩) fr lc,.slice xa n3 xc,.slice A4 nn (lc-(fr+1))] 71)=V:=⟨_,rfl⟩;rw[hw7]at dh dK⊢;rw[sH]at dK⊢;clear hw7;have pq:=(aO.out w7 dh).2.2;obtain⟨hfl,hx3⟩:=HX.out;have hkk:=pq.kids L'[fr] (List.getElem_mem hfl);have hsz:=sj (DN (L:=L') (x:=L'[fr]) (List.getElem_mem hfl));rw[hx3,HT.out.2.1]at hsz;rw[hx3]at hkk;simp only at hkk hsz;obtain⟨L3,hL3,bY⟩:=hkk.list;have Ia:L3.length<=2000:=by have:=qj L3;rw[hL3]at this;have:=HK.out.1;omega
  have Z6:Hid (L'.drop fr=(.slice xa n3 xc,q3,DZ)::L'.drop (fr+1)):=by show _=_;rw[<-hx3];exact List.drop_eq_getElem_cons hfl
  have cc:=Hy (w:=w7) (pb:=p7) (A:=fun b=>A b\/W.heap.size<=b) (La:=L'.take fr) (Lb:=L3) (Lc:=L'.drop (fr+1)) (ah (i:=0) dK rfl) (ah (i:=1) dK rfl) (ah (i:=2) dK rfl)
   (by
     have h0:bU w7 (fun b=>A b\/W.heap.size<=b) (.slice (some ⟨b1,o1,none⟩) L'.length lc) L':=by rw[H9.out];exact pq
     exact h0.take (by omega))
   bY
   (by
     have h0:bU w7 (fun b=>A b\/W.heap.size<=b) (.slice (some ⟨b1,o1,none⟩) L'.length lc) L':=by rw[H9.out];exact pq
     exact h0.drop (by rw[H9.out];exact uD.out) yV.out)
   (by have:=HK.out.2.2;have:=H9.out;simp only[List.length_take,List.length_drop];omega)
  clear pq dK sH hkk hsz bY hx3 Ia;refine ax.one (i:=14) (by kernel_rfl) ⟨_,rfl,fun K hK=> ?_⟩
  go_simp
  refine cc.mono ?_;rintro e w8 ⟨a8,n8,d8,rfl,mX,gW⟩;dsimp only;have gX:Below Wd.heap.size Wd w8:=dh.trans (gW.mono dh.size);refine hK.out _ _ (fun _=>(aO.out _ gX).1) ?_;clear hK cc;have om:=(aO.out _ gX).2.1;have hres:=(HS.out w8 om).2;have y0:w8.cell? ⟨w.heap.size+1+1,0,none⟩=some (.int .i64 0):=ah hres rfl;have y1:w8.cell? ⟨w.heap.size+1+1,1,none⟩=some (.slice none 0 0):=ah hres rfl;have eB:w8.frozen? ⟨w.heap.size+1+1,0,none⟩=false:=bE hres;have eD:w8.frozen? ⟨w.heap.size+1+1,1,none⟩=false:=bE hres;have q0:=kW (v0:= .int .i64 (q:Int)) (v1:= .slice a8 n8 d8) hres;have q1:=kX (v0:= .int .i64 (q:Int)) (v1:= .slice a8 n8 d8) hres
  have HR:Hid (aG w8 (fun b=>A b\/W.heap.size<=b) (.slice a8 n8 d8) (iA fr (dW q fr ks))/\Below W.heap.size W w8):=by
   refine⟨?_,om⟩;have h1:=mX.fo
   have h2:rowOf (L'.take fr++L3++L'.drop (fr+1))=iA fr (dW q fr ks):=by
    unfold iA;rw[<-HT.out.2.1,<-um,Z6.out,rowOf,ug,yL,<-AQ,List.append_assoc,ul,ul,hL3]
   rw[h2]at h1;refine h1.kept fun x hx _=>⟨rfl,?_⟩;rcases hx with hx|hx
   ·exact hx
   ·exact .inr (Nat.le_trans (Nat.le_trans HW2.out dh.size) hx)
  refine ax.one (i:=15) (by kernel_rfl) ⟨_,rfl,fun K hK=> ?_⟩
  go_simp
  refine hK.out _ _ (fun _=>(aO.out _ gX).1) ?_;clear hK mX gW gX dh om hres;refine ax.last (i:=16) (by kernel_rfl) ⟨_,rfl,fun K hK=> ?_⟩
  go_simp
  refine hK.out _ _ (fun h=>absurd h (by omega)) (NoPanic.normal ?_);clear hK
  go_wp2_with fail
  refine bodyPost_ret (v:= .agg #[.int .i64 (q:Int),.slice a8 n8 d8]) (by simp[results,Tryz.results138,go_sem,q0,q1]) rfl ?_;have hz:=HM.out.2;exact⟨_,rfl,HR.out.1.rz HA.out hz _ _,((HM.out.1.trans (HR.out.2.mono HM.out.1.size)).setCell (by simp;omega) _).setCell (by simp;omega) _⟩
 ·have hne:((q:Int)==(ka:Int))=false:=by simp;omega
  have hne2:decide ((q:Int)=(ka:Int))=false:=decide_eq_false (by omega);rw[if_neg eF];clear hqk
  go_enter Tryz.func138,Tryz.ntmps138
  go_wp2_with
   (go_at_call 141;refine ea.mono ?_;rintro e w2 ⟨rv,L',rfl,bP,hG2,hB2⟩
    obtain⟨la,lc,hlv⟩:=aY bP.own;subst hlv;obtain⟨n2,hn2⟩:∃n,L'.length=n:=⟨_,rfl⟩;rw[hn2]at bP⊢;obtain⟨z0,z1,z2,z3,z4,z5,z6,z7,z8,z9,jK⟩:=(HS.out w2 hB2).1;have hres:=(HS.out w2 hB2).2;have y0:w2.cell? ⟨w.heap.size+1+1,0,none⟩=some (.int .i64 0):=ah hres rfl;have y1:w2.cell? ⟨w.heap.size+1+1,1,none⟩=some (.slice none 0 0):=ah hres rfl;have eB:w2.frozen? ⟨w.heap.size+1+1,0,none⟩=false:=bE hres;have eD:w2.frozen? ⟨w.heap.size+1+1,1,none⟩=false:=bE hres;have q0:=kW (v0:= .int .i64 (q:Int)) (v1:= .slice la n2 lc) hres;have q1:=kX (v0:= .int .i64 (q:Int)) (v1:= .slice la n2 lc) hres
    have HT:Hid (aG w2 (fun b=>A b\/W.heap.size<=b) (.slice la n2 lc) (dW ka fr ks)/\Below W.heap.size W w2):=by
     refine⟨?_,hB2⟩;have:=bP.kU.fo;rw[hG2]at this;exact this
    clear ea bP hG2 hB2 hn2 hres x0 x1 x2 x3 x4 x5 x6 x7 x8 x9 x10 hW)
  refine bodyPost_ret (v:= .agg #[.int .i64 (q:Int),.slice la n2 lc]) (by simp[results,Tryz.results138,go_sem,q0,q1]) rfl ?_;have hz:=HM.out.2;exact⟨_,rfl,HT.out.1.rz HA.out hz _ _,((HM.out.1.trans (HT.out.2.mono HM.out.1.size)).setCell (by simp;omega) _).setCell (by simp;omega) _⟩
end
section
variable{w:World}{T N o b c at':Int}{ra ca:Option Addr}{rl rc nI cc ka q:Nat}
theorem Z7(hq:q≠ka)(hq1:q<=100000)(hn:nI<=100000):
 Calls Tryz.prog 151 #[.agg #[.int .i64 T,.int .i64 N,.slice ra rl rc,.int .i64 o,.int .i64 (ka:Int),.int .i64 b,.int .i64 c,.slice ca nI cc,.int .i64 at'],.int .i64 (q:Int)] w fun e w'=>e= .returned (.int .i64 ((if q<ka then q else q-1+nI:Nat):Int))/\Below w.heap.size w w':=by
 have HB:Hid (Below w.heap.size w (w.alloc (.cells #[.int .i64 T,.int .i64 N,.slice ra rl rc,.int .i64 o,.int .i64 (ka:Int),.int .i64 b,.int .i64 c,.slice ca nI cc,.int .i64 at'] 113))):=(Below.refl _ _).alloc (Nat.le_refl _) _;by_cases h:q<ka
 ·have hd:decide (q<ka)=true:=decide_eq_true h
  rw[if_pos h];clear h
  go_enter Tryz.func151,Tryz.ntmps151
  go_wp2_with fail
  go_ret;exact⟨rfl,HB.out⟩
 ·have hd:decide (q<ka)=false:=decide_eq_false h
  have i1:IntKind.i64.wrap ((q:Int)-1)=(q:Int)-1:=IntWalk.i64_in _ (by omega);have i2:IntKind.i64.wrap ((q:Int)-1+(nI:Int))=(q:Int)-1+(nI:Int):=IntWalk.i64_in _ (by omega);have HE:Hid ((q:Int)-1+(nI:Int)=((q-1+nI:Nat):Int)):=by show _=_;omega
  rw[if_neg h,<-HE.out];clear h
  go_enter Tryz.func151,Tryz.ntmps151
  go_wp2_with fail
  go_ret;exact⟨rfl,HB.out⟩
theorem Z8(hq:q<ka\/nI<=q+1)(hq1:q<=100000)(hn:nI<=100000):
 Calls Tryz.prog 150 #[.agg #[.int .i64 T,.int .i64 N,.slice ra rl rc,.int .i64 o,.int .i64 (ka:Int),.int .i64 b,.int .i64 c,.slice ca nI cc,.int .i64 at'],.int .i64 (q:Int)] w fun e w'=>e= .returned (.int .i64 ((if q<ka then q else q+1-nI:Nat):Int))/\Below w.heap.size w w':=by
 have HB:Hid (Below w.heap.size w (w.alloc (.cells #[.int .i64 T,.int .i64 N,.slice ra rl rc,.int .i64 o,.int .i64 (ka:Int),.int .i64 b,.int .i64 c,.slice ca nI cc,.int .i64 at'] 113))):=(Below.refl _ _).alloc (Nat.le_refl _) _;by_cases h:q<ka
 ·have hd:decide (q<ka)=true:=decide_eq_true h
  rw[if_pos h];clear h
  go_enter Tryz.func150,Tryz.ntmps150
  go_wp2_with fail
  go_ret;exact⟨rfl,HB.out⟩
 ·have hd:decide (q<ka)=false:=decide_eq_false h
  have i1:IntKind.i64.wrap ((q:Int)+1)=(q:Int)+1:=IntWalk.i64_in _ (by omega);have i2:IntKind.i64.wrap ((q:Int)+1-(nI:Int))=(q:Int)+1-(nI:Int):=IntWalk.i64_in _ (by omega);have HE:Hid ((q:Int)+1-(nI:Int)=((q+1-nI:Nat):Int)):=by show _=_;omega
  rw[if_neg h,<-HE.out];clear h
  go_enter Tryz.func150,Tryz.ntmps150
  go_wp2_with fail
  go_ret;exact⟨rfl,HB.out⟩
end
end Go.Proofs.YtpkmpkphfflpjaaGreat

import Derived.Test.YtblkkhfdeaaidaaGreatDoorTkClosedAndTkStates
import Derived.Test.YtblkkhfdeaaidaaGreatDoorChartOfAndSpreadMath
import Derived.Test.YtblkkhfdeaaidaaGreatDoorTxNuAndHeldSeq
import Derived.StillTailTactics
import Derived.Test.YtblkkhfdeaaidaaGreatDoorTxPaAndLfp
import Derived.Test.YtblkkhfdeaaidaaGreatDoorLooksMathAndTabMath
set_option maxHeartbeats 6400000
set_option maxRecDepth 100000
namespace Go.Proofs.YtblkkhfdeaaidaaGreatDoor
open Go.RowKit
def pG(s:Sy):List Value:=[.bool s.1,.int .i64 s.2]
theorem abr{L:List Sy}{i k:Nat}(hi:i<L.length)(hk:k<2):(L.flatMap pG)[i*2+k]?=(pG (L.getD i (false,0)))[k]?:=by
 induction L generalizing i with
 |nil=>simp at hi
 |cons a L ih=>
  rw[List.flatMap_cons];have hl:(pG a).length=2:=rfl;cases i with
  |zero=>rw[List.getElem?_append_left (by omega)];simp
  |succ i=>
   rw[List.getElem?_append_right (by omega),hl,show (i+1)*2+k-2=i*2+k by omega];rw[ih (by simpa using hi)];simp[List.getD]
def jw(T n:Nat):List Sy:=(List.range n).map (bR T)
theorem SN(T n:Nat):jw T (n+1)=jw T n++[bR T n]:=by unfold jw;rw[List.range_succ,List.map_append];rfl
theorem abt(T n:Nat):(jw T n).length=n:=by simp[jw]
theorem abu{T n x:Nat}(h:x<n):(jw T n).getD x (false,0)=bR T x:=by simp[jw,List.getD,h]
theorem abw{w:World}{lim ab T N:Nat}{rv:Value}{R:List Ru}(hA:iC w lim ab T N rv R)(hT:T<=8)(hN:N<=12):
 Calls Tryz.prog 80 #[.pointer (some ⟨ab,0,none⟩)] w fun e w'=> ∃ov,e= .returned ov/\w'.ownsRow w.heap.size 116 2 ov (T+N) ((jw T (T+N)).flatMap pG)/\Below w.heap.size w w':=by
 have HA:Hid (iC w lim ab T N rv R):=hA;have a0:=hA.t;obtain⟨i5,hi0,hz0,hz1,hz2⟩:=info_parts Tryz.infoSy;have HI:Hid (Tryz.prog.info? 116=some i5/\i5.zero=some (.agg #[.bool false,.int .i64 0])/\i5.size=2/\i5.bytes=16):=⟨hi0,hz0,hz1,hz2⟩;clear hA hi0 hz0 hz1 hz2
 go_enter Tryz.func80,Tryz.ntmps80
 go_wp2_with fail
 clear a0
 go_loopw [3,11] (fun s3 s11 wr=> ∃(k:Nat) (ov:Value),ov=s3/\s11= .int .i64 k/\k<=T/\wr.ownsRow w.heap.size 116 2 ov k ((jw T k).flatMap pG)/\Below w.heap.size w wr) (fun _ s _=>T-(intOf s).toNat)
 case atStart=>exact⟨0,_,rfl,rfl,Nat.zero_le _,World.ownsRow_nil w w.heap.size 116 2,Below.refl _ _⟩
 case round=>
  obtain⟨k,ov,rfl,rfl,hk,hO,hB⟩:=hrel;have HB:Hid (Below w.heap.size w wr):=hB;have HO:Hid (wr.ownsRow w.heap.size 116 2 ov k ((jw T k).flatMap pG)):=hO;by_cases hlt:k<T
  ·have dh:=hO.alloc (.cells #[.bool true,.int .i64 k] 116)
   have iJ:=World.news_of_block (cs:= #[.bool true,.int .i64 k]) (t:=116) (fr:=(0,0)) (heap_alloc_new wr (.cells #[.bool true,.int .i64 k] 116));have hs1:w.heap.size<=wr.heap.size:=hB.size;have n1:k+1<=maxLen:=by unfold maxLen;omega
   have n2:(k+1)*16<=140737488355328:=by omega
   obtain⟨hi0,hz0,hz1,hz2⟩:=HI.out;have HS:Hid (jw T (k+1)=jw T k++[(true,(k:Int))]):=by show jw T (k+1)=_;rw[SN];simp[bR,hlt]
   clear hB hO
   go_wp2_with
    (at_builtin
     (refine wpList_append_lies _ rfl _ _ _ rfl w.heap.size 116 i5 _ 2 16 Tryz.underlying89 hi0 hz0 hz1 hz2 rfl (by omega) ov k ((jw T k).flatMap pG) rfl dh ⟨wr.heap.size,0,none⟩ 1 1 [.bool true,.int .i64 k] rfl rfl iJ (by simp[Value.oneCell']) (by omega) n1 n2 (by simp;omega) (wr.heap.size+1) (by simp) ?_)
     intro g6 cap6 w6 hown6 dO lI rq)
   go_roundw
   case rel=>
    have aQ:Below w.heap.size w w6:=(HB.out.alloc (by omega) _).grown dO (by simp;omega) (fun j hj=>(HO.out.lt j hj).1);refine⟨k+1,_,rfl,by go_num,by omega,?_,aQ⟩;rw[HS.out,List.flatMap_append];exact hown6
   case measure=>simp[intOf];omega
  ·obtain rfl:k=T:=by omega
   have a1:=(HA.out.later hB).n;clear hB hO
   go_wp2_with fail
   clear a1
   go_loopw [3,25] (fun s3 s25 wq=> ∃(j:Nat) (ov:Value),ov=s3/\s25= .int .i64 j/\j<=N/\wq.ownsRow w.heap.size 116 2 ov (k+j) ((jw k (k+j)).flatMap pG)/\Below w.heap.size w wq) (fun _ s _=>N-(intOf s).toNat)
   case atStart=>exact⟨0,ov,rfl,rfl,Nat.zero_le _,HO.out,HB.out⟩
   case round=>
    clear HB HO;obtain⟨j,ov,rfl,rfl,hj,hO,hB⟩:=hrel;have HB:Hid (Below w.heap.size w wr):=hB;have HO:Hid (wr.ownsRow w.heap.size 116 2 ov (k+j) ((jw k (k+j)).flatMap pG)):=hO;by_cases hjl:j<N
    ·have dh:=hO.alloc (.cells #[.bool false,.int .i64 j] 116)
     have iJ:=World.news_of_block (cs:= #[.bool false,.int .i64 j]) (t:=116) (fr:=(0,0)) (heap_alloc_new wr (.cells #[.bool false,.int .i64 j] 116));have hs1:w.heap.size<=wr.heap.size:=hB.size;have n1:k+j+1<=maxLen:=by unfold maxLen;omega
     have n2:(k+j+1)*16<=140737488355328:=by omega
     obtain⟨hi0,hz0,hz1,hz2⟩:=HI.out
     have HS:Hid (jw k (k+(j+1))=jw k (k+j)++[(false,(j:Int))]):=by
      show jw k (k+(j+1))=_;rw[<-Nat.add_assoc,SN];have:bR k (k+j)=(false,(j:Int)):=by simp[bR]
      rw[this]
     clear hB hO
     go_wp2_with
      (at_builtin
       (refine wpList_append_lies _ rfl _ _ _ rfl w.heap.size 116 i5 _ 2 16 Tryz.underlying89 hi0 hz0 hz1 hz2 rfl (by omega) ov (k+j) ((jw k (k+j)).flatMap pG) rfl dh ⟨wr.heap.size,0,none⟩ 1 1 [.bool false,.int .i64 j] rfl rfl iJ (by simp[Value.oneCell']) (by omega) n1 n2 (by simp;omega) (wr.heap.size+1) (by simp) ?_)
       intro g6 cap6 w6 hown6 dO lI rq)
     go_roundw
     case rel=>
      have aQ:Below w.heap.size w w6:=(HB.out.alloc (by omega) _).grown dO (by simp;omega) (fun j hj=>(HO.out.lt j hj).1);refine⟨j+1,_,rfl,by go_num,by omega,?_,aQ⟩;rw[HS.out,List.flatMap_append];exact hown6
     case measure=>simp[intOf];omega
    ·obtain rfl:j=N:=by omega
     clear hB hO
     go_wp2_with fail
     go_ret;exact⟨ov,rfl,HO.out,HB.out⟩
theorem abx{w0 w:World}{d:eD}{v:bS}{G:Wy->Option Value}{ng:Nat}{st:LS}{R:List Ru}{Nu:List Bool}{Fi:List (List Bool)}{Ls:List aI}{k x:Nat}(E:iT w0 d R Nu Fi)(h:aj w0 w d v G ng st)(hS:iQ R v.OL Ls)(hk:k<v.OL.length):
 Calls Tryz.prog 81 #[.pointer (some ⟨d.ma,0,none⟩),.int .i64 k,.agg #[.bool (bR d.T x).1,.int .i64 (bR d.T x).2]] w fun e w'=> ∃ov,e= .returned ov/\w'.ownsRow w.heap.size 138 2 ov (bY d.T R (v.OL.getD k []) x (v.OL.getD k []).length).length ((bY d.T R (v.OL.getD k []) x (v.OL.getD k []).length).flatMap aT)/\Below w.heap.size w w':=by
 have hlen:(v.OL.getD k []).length<=369:=by
  have:=F7 E.yS (hS.jo k hk).qA (hS.ok k hk);have:=E.hR;omega
 have om:Hid (∀t∈v.OL.getD k [],mH R t):=hS.ok k hk;have HE:Hid (iT w0 d R Nu Fi):=E;obtain⟨g,c,hsv,_,q0⟩:=h.state hk;have hit:=h.items hk;have c6:=(h.cell (i:=6) rfl (by omega)).1;rw[hsv]at c6;obtain⟨ia,ic,hiv⟩:=hit.1;rw[hiv]at q0 hit;have y8:=(((Below.refl _ w).alloc (Nat.le_refl _) (.cells #[.bool (bR d.T x).1,.int .i64 (bR d.T x).2] 116)).cell (p:=⟨d.ma,6,none⟩) h.Az).trans c6;have yY:=(((Below.refl _ w).alloc (Nat.le_refl _) (.cells #[.bool (bR d.T x).1,.int .i64 (bR d.T x).2] 116)).cell (p:=⟨g,k,none⟩) (World.block_lt_of_cell? _ _ q0)).trans q0;obtain⟨O,hO⟩:∃O,v.OL.getD k []=O:=⟨_,rfl⟩;rw[hO]at yY hit hlen om⊢;obtain⟨y,hy⟩:∃y,bR d.T x=y:=⟨_,rfl⟩;have Cy:Hid (∀a b,a<=R.length->(iO d.T R (a,b) x↔(aH R a)[b]?=some y)):=fun a b ha=>by rw[<-hy];exact aah (N:=d.N) (i:=(a,b)) (E.sym a ha)
 rw[hy]at y8 yY⊢;have HA:Hid (iC (w.alloc (.cells #[.bool y.1,.int .i64 y.2] 116)) w0.heap.size d.ma d.T d.N d.rv R):=(h.auto E).boxed _;have Lh:Hid (iI (w.alloc (.cells #[.bool y.1,.int .i64 y.2] 116)) w.heap.size (.slice ia O.length ic) O):=hit.below ((Below.refl _ _).alloc (Nat.le_refl _) _);have i0:(0:Int)<=(k:Int):=Int.natCast_nonneg _;have i1:(k:Int)<(v.OL.length:Int):=by omega
 obtain⟨yb,yv⟩:=y;simp only at y8 yY HA Lh⊢;clear E h hS hsv hit hiv c6 q0 hO hy;obtain⟨W1,hW1⟩:∃W1,w.alloc (.cells #[.bool yb,.int .i64 yv] 116)=W1:=⟨_,rfl⟩;have y0:W1.cell? ⟨w.heap.size,0,none⟩=some (.bool yb):=by rw[<-hW1];simp[go_sem]
 have y1:W1.cell? ⟨w.heap.size,1,none⟩=some (.int .i64 yv):=by rw[<-hW1];simp[go_sem]
 have HB1:Hid (Below w.heap.size w W1):=by show Below _ _ _;rw[<-hW1];exact(Below.refl _ _).alloc (Nat.le_refl _) _
 have hsz1:w.heap.size<W1.heap.size:=by rw[<-hW1];simp
 rw[hW1]at y8 yY HA Lh;obtain⟨i5,hi0,hz0,hz1,hz2⟩:=info_parts Tryz.infoIt;have yJ:Hid (Tryz.prog.info? 138=some i5/\i5.zero=some (.agg #[.int .i64 0,.int .i64 0])/\i5.size=2/\i5.bytes=16):=⟨hi0,hz0,hz1,hz2⟩;clear hi0 hz0 hz1 hz2
 go_enter Tryz.func81,Tryz.ntmps81
 go_wp2_with fail
 clear hW1 y8 yY
 go_loopw [7,20] (fun s7 s20 wr=> ∃(j:Nat) (ov:Value),ov=s7/\s20= .int .i64 j/\j<=O.length/\wr.ownsRow W1.heap.size 138 2 ov (bY d.T R O x j).length ((bY d.T R O x j).flatMap aT)/\Below W1.heap.size W1 wr) (fun _ s _=>O.length-(intOf s).toNat)
 case atStart=>exact⟨0,_,rfl,rfl,Nat.zero_le _,World.ownsRow_nil W1 W1.heap.size 138 2,Below.refl _ _⟩
 case round=>
  obtain⟨j,ov,rfl,rfl,hj,hO,hB⟩:=hrel;have HB:Hid (Below W1.heap.size W1 wr):=hB;have jk:Hid (Below w.heap.size w wr):=HB1.out.trans (hB.mono (by omega));have HO:Hid (wr.ownsRow W1.heap.size 138 2 ov (bY d.T R O x j).length ((bY d.T R O x j).flatMap aT)):=hO;by_cases hlt:j<O.length
  ·obtain⟨b',o',c',rE,_,q0,q1⟩:=(Lh.out.below (hB.mono (by omega))).2 j hlt
   cases rE;rw[<-Nat.add_assoc]at q1;obtain⟨⟨a,b⟩,hab⟩:∃z,O.getD j (0,0)=z:=⟨_,rfl⟩;rw[hab]at q0 q1;simp only at q0 q1;have hmem:(a,b)∈O:=by rw[<-hab];simp[List.getD,hlt]
   have ok:=om.out _ hmem;have ha:a<=R.length:=ok.1;have hbl:b<=(aH R a).length:=ok.2;have K4:=HE.out.yS a ha;have i2:(0:Int)<=(j:Int):=Int.natCast_nonneg _;have i3:(j:Int)<(O.length:Int):=by omega
   have hAr:=(HA.out.later hB).boxed (.cells #[.int .i64 a,.int .i64 b] 138);have hkl:=QW (T:=d.T) (R:=R) (x:=x) (O:=O) (j:=j);have A8:=Cy.out a b ha;have z0:=(hB.cell (p:=⟨w.heap.size,0,none⟩) hsz1).trans y0;have z1:=(hB.cell (p:=⟨w.heap.size,1,none⟩) hsz1).trans y1;have A9:w.heap.size<wr.heap.size:=Nat.lt_of_lt_of_le hsz1 hB.size;cases hnx:(aH R a)[b]? with
   |none=>
    have nx:=Gp (a:=a) (b:=b) hAr ha (by have:=List.getElem?_eq_none_iff.1 hnx;omega);have HK:Hid (bY d.T R O x (j+1)=bY d.T R O x j):=QX hlt hab (by rw[A8,hnx];exact fun e=>by cases e);clear hB hO hab hmem ok hAr A8 hnx
    go_wp2_with
     (go_at_call 104;refine nx.mono ?_;rintro e w2 ⟨rfl,hB2⟩
      have HB2:Hid (Below wr.heap.size wr w2):=((Below.refl _ _).alloc (Nat.le_refl _) _).trans (hB2.mono (by simp))
      clear hB2)
    go_roundw
    case rel=>
     have hb:=HB2.out.alloc HB2.out.size (.cells #[.bool false,.int .i64 0] 116);exact⟨j+1,ov,rfl,by go_num,by omega,by rw[HK.out];exact own_below HO.out hb (fun k hk=>(HO.out.lt k hk).2),HB.out.trans (hb.mono HB.out.size)⟩
    case measure=>simp[intOf];omega
   |some s=>
    have nx:=Gn hAr ha hnx;obtain⟨sb,sv⟩:=s;simp only at nx;by_cases hse:(sb,sv)=(yb,yv)
    ·cases hse
     have HK:Hid (bY d.T R O x (j+1)=bY d.T R O x j++[(a,b+1)]):=ZL hlt hab (by rw[A8,hnx]);have Gz:=fun W=>RS (w:=W) (a:=a) (b:=b) (by omega);obtain⟨p,hp⟩:∃p,(bY d.T R O x j).length=p:=⟨_,rfl⟩;rw[hp]at hkl HO;have HP:Hid ((bY d.T R O x j).length=p):=hp;have n1:p+1<=maxLen:=by unfold maxLen;omega
     have n2:(p+1)*16<=140737488355328:=by omega
     obtain⟨hi0,hz0,hz1,hz2⟩:=yJ.out;clear hB hO hab hmem ok hAr A8 hnx hp
     cases yb<;>
      (go_wp2_with
        (first
         |(go_at_call 104;refine nx.mono ?_;rintro e w2 ⟨rfl,hB2⟩
           have x0:w2.cell? ⟨wr.heap.size,0,none⟩=some (.int .i64 a):=(hB2.cell (by simp)).trans (by simp[go_sem]);have x1:w2.cell? ⟨wr.heap.size,1,none⟩=some (.int .i64 b):=(hB2.cell (by simp)).trans (by simp[go_sem]);have HB2:Hid (Below wr.heap.size wr w2):=((Below.refl _ _).alloc (Nat.le_refl _) _).trans (hB2.mono (by simp));have v0:=(HB2.out.cell (p:=⟨w.heap.size,0,none⟩) A9).trans z0;have v1:=(HB2.out.cell (p:=⟨w.heap.size,1,none⟩) A9).trans z1;have s2:wr.heap.size<w2.heap.size:=by have:=hB2.size;simp at this;omega
           have s3:w.heap.size<w2.heap.size:=by omega
           clear hB2)
         |(go_at_call 105;refine(Gz _).mono ?_;rintro e w4 ⟨rfl,hB4⟩
           have gJ:Hid (Below wr.heap.size wr w4):=(HB2.out.alloc HB2.out.size _).trans (hB4.mono (by have:=HB2.out.size;simp;omega));have SQ:w4.ownsRow W1.heap.size 138 2 ov p ((bY d.T R O x j).flatMap aT):=own_below HO.out gJ.out (fun k hk=>(HO.out.lt k hk).2);have dh:=SQ.alloc (.cells #[.int .i64 a,.int .i64 ((b:Int)+1)] 138);have iJ:=World.news_of_block (cs:= #[.int .i64 a,.int .i64 ((b:Int)+1)]) (t:=138) (fr:=(0,0)) (heap_alloc_new w4 (.cells #[.int .i64 a,.int .i64 ((b:Int)+1)] 138));have hs5:W1.heap.size<=w4.heap.size:=by have:=gJ.out.size;have:=HB.out.size;omega
           clear hB4 SQ)
         |(at_builtin
           (refine wpList_append_lies _ rfl _ _ _ rfl W1.heap.size 138 i5 _ 2 16 Tryz.underlying139 hi0 hz0 hz1 hz2 rfl (by omega) ov p ((bY d.T R O x j).flatMap aT) rfl dh ⟨w4.heap.size,0,none⟩ 1 1 [.int .i64 a,.int .i64 ((b:Int)+1)] rfl rfl iJ (by simp[Value.oneCell']) (by omega) n1 n2 (by simp;omega) (w4.heap.size+1) (by simp) ?_)
           intro g6 cap6 w6 hown6 dO lI rq))
       go_roundw
       case rel=>
        have aQ:Below W1.heap.size W1 w6:=((HB.out.trans (gJ.out.mono HB.out.size)).alloc (by have:=HB.out.size;have:=gJ.out.size;omega) _).grown dO (by have:=HB.out.size;have:=gJ.out.size;simp;omega) (fun q hq=>(HO.out.lt q hq).1);refine⟨j+1,_,rfl,by go_num,by omega,?_,aQ⟩;rw[HK.out,List.flatMap_append,List.length_append,HP.out];exact hown6
       case measure=>simp[intOf];omega)
    ·have HK:Hid (bY d.T R O x (j+1)=bY d.T R O x j):=QX hlt hab (by rw[A8,hnx];exact fun e=>hse (by injection e))
     clear hB hO hab hmem ok hAr A8 hnx;by_cases hbb:sb=yb
     ·subst hbb
      have e1:(sv==yv)=false:=by simpa using fun e=>hse (by rw[e])
      clear hse
      cases sb<;>
       (go_wp2_with
         (go_at_call 104;refine nx.mono ?_;rintro e w2 ⟨rfl,hB2⟩
          have HB2:Hid (Below wr.heap.size wr w2):=((Below.refl _ _).alloc (Nat.le_refl _) _).trans (hB2.mono (by simp));have v0:=(HB2.out.cell (p:=⟨w.heap.size,0,none⟩) A9).trans z0;have v1:=(HB2.out.cell (p:=⟨w.heap.size,1,none⟩) A9).trans z1;have s3:w.heap.size<w2.heap.size:=by have:=HB2.out.size;omega
          clear hB2)
        go_roundw
        case rel=>
         have hb:=fun o=>HB2.out.alloc HB2.out.size o;exact⟨j+1,ov,rfl,by go_num,by omega,by rw[HK.out];exact own_below HO.out (hb _) (fun k hk=>(HO.out.lt k hk).2),HB.out.trans ((hb _).mono HB.out.size)⟩
        case measure=>simp[intOf];omega)
     ·clear hse
      cases sb<;>cases yb<;>first
       |exact absurd rfl hbb
       |(go_wp2_with
          (go_at_call 104;refine nx.mono ?_;rintro e w2 ⟨rfl,hB2⟩
           have HB2:Hid (Below wr.heap.size wr w2):=((Below.refl _ _).alloc (Nat.le_refl _) _).trans (hB2.mono (by simp));have v0:=(HB2.out.cell (p:=⟨w.heap.size,0,none⟩) A9).trans z0;have v1:=(HB2.out.cell (p:=⟨w.heap.size,1,none⟩) A9).trans z1;have s3:w.heap.size<w2.heap.size:=by have:=HB2.out.size;omega
           clear hB2)
         go_roundw
         case rel=>
          have hb:=fun o=>HB2.out.alloc HB2.out.size o;exact⟨j+1,ov,rfl,by go_num,by omega,by rw[HK.out];exact own_below HO.out (hb _) (fun k hk=>(HO.out.lt k hk).2),HB.out.trans ((hb _).mono HB.out.size)⟩
         case measure=>simp[intOf];omega)
  ·obtain rfl:j=O.length:=by omega
   clear hB hO
   go_wp2_with fail
   go_ret;exact⟨ov,rfl,jf HO.out (by omega),jk.out⟩
structure F1(w0 ws:World)(d:eD)(vs:bS)(st:LS)(R:List Ru)(k:Nat)(v':bS)(ng:Nat)(wr:World):Prop where
 m:aj w0 wr d v' (aS d.T (af d.T d.N R k).1) ng st
 s:iQ R v'.OL (af d.T d.N R k).2
 few:v'.OL.length<=150
 le:k<=v'.OL.length
 ng:ng<=k*20
 ov:v'.ov=vs.ov
 g:aF d vs v' ws wr
structure F2(w0 ws:World)(d:eD)(vs:bS)(st:LS)(R:List Ru)(k x:Nat)(v':bS)(ng:Nat)(wr:World):Prop where
 m:aj w0 wr d v' (aS d.T ((af d.T d.N R k).1++[(bH d.T R k x (af d.T d.N R k).2).1])) ng st
 s:iQ R v'.OL (bH d.T R k x (af d.T d.N R k).2).2
 few:v'.OL.length<=150
 lt:k<v'.OL.length
 b:k<(af d.T d.N R k).2.length
 ng:ng<=k*20+x
 ov:v'.ov=vs.ov
 g:aF d vs v' ws wr
section
variable{w0 ws wr w':World}{d:eD}{vs v v':bS}{st:LS}{R:List Ru}{k x ng ng':Nat}
theorem F1.into(h:F1 w0 ws d vs st R k v ng wr)(hk:k<v.OL.length):F2 w0 ws d vs st R k 0 v ng wr:=
 ⟨by show aj w0 wr d v (aS d.T ((af d.T d.N R k).1++[[]])) ng st;rw[aaj];exact h.m,h.s,h.few,hk,by rw[<-h.s.len];exact hk,h.ng,h.ov,h.g⟩
theorem F2.out(h:F2 w0 ws d vs st R k (d.T+d.N) v ng wr)(hTN:d.T+d.N<=20):F1 w0 ws d vs st R (k+1) v ng wr:=by
 have e:af d.T d.N R (k+1)=jK d.T d.N R k (af d.T d.N R k):=rfl;exact⟨by rw[e];exact h.m,by rw[e];exact h.s,h.few,h.lt,by have:=h.ng;omega,h.ov,h.g⟩
theorem F2.none(h:F2 w0 ws d vs st R k x v ng wr)(he:bY d.T R (v.OL.getD k []) x (v.OL.getD k []).length=[])(hb:Below wr.heap.size wr w'):F2 w0 ws d vs st R k (x+1) v ng w':=by
 have hv:=h.s.aag h.lt he;have e:bH d.T R k (x+1) (af d.T d.N R k).2=jm d.T R k x (bH d.T R k x (af d.T d.N R k).2):=rfl;refine⟨?_,?_,h.few,h.lt,h.b,by have:=h.ng;omega,h.ov,h.g.trans (aF.bP hb)⟩
 ·rw[e,jm]
  simp only;rw[hv,Rl,if_neg (by omega)];exact h.m.below hb
 ·rw[e,jm]
  simp only;rw[hv];exact h.s
theorem F2.some(h:F2 w0 ws d vs st R k x v ng wr)(hne:bY d.T R (v.OL.getD k []) x (v.OL.getD k []).length≠[]){C:List It}(hs:C.Pairwise iq)(hC:∀i,i∈C↔Cl R (· ∈bY d.T R (v.OL.getD k []) x (v.OL.getD k []).length) i){n:Nat}(ht:Dw v.OL C n v'.OL)
 (hm:aj w0 w' d v' (eT (aS d.T ((af d.T d.N R k).1++[(bH d.T R k x (af d.T d.N R k).2).1])) (k,bR d.T x) (.int .i64 n)) (ng+1) st) (hov:v'.ov=v.ov) (hg:aF d v v' wr w'):
 (iQ R v'.OL (bH d.T R k (x+1) (af d.T d.N R k).2).2)/\(v'.OL.length<=150->F2 w0 ws d vs st R k (x+1) v' (ng+1) w'):=by
 obtain⟨hv1,hv2⟩:=h.s.visit h.lt hne hs hC ht;have e:bH d.T R k (x+1) (af d.T d.N R k).2=jm d.T R k x (bH d.T R k x (af d.T d.N R k).2):=rfl;have hS:iQ R v'.OL (bH d.T R k (x+1) (af d.T d.N R k).2).2:=by rw[e,jm];exact hv2
 refine⟨hS,fun hf=>⟨?_,hS,hf,?_,h.b,by have:=h.ng;omega,hov.trans h.ov,h.g.trans hg⟩⟩
 ·have hl:=KD (T:=d.T) (R:=R) k x (af d.T d.N R k).2
  have hl2:=QZ (T:=d.T) (N:=d.N) (R:=R) k;rw[e,jm];simp only;rw[hv1,Rl,if_pos (Int.natCast_nonneg _),hl,hl2];exact hm
 ·rcases ht with⟨_,_,e2⟩|⟨_,_,e2⟩
  ·rw[e2];exact h.lt
  ·rw[e2,List.length_append];have:=h.lt;omega
theorem F2.lens(h:F2 w0 ws d vs st R k x v ng wr){Nu:List Bool}{Fi:List (List Bool)}(E:iT w0 d R Nu Fi):∀j,j<v.OL.length->(v.OL.getD j []).length<=369:=fun j hj=>by
 have:=F7 E.yS (h.s.jo j hj).qA (h.s.ok j hj);have:=E.hR;omega
end
def aby(w0 w:World)(d:eD)(v:bS)(st:LS)(R:List Ru)(e:Ending)(w':World):Prop:=
 (e= .returned (.bool false)/\More d.T d.N R 150/\Below w0.heap.size w w')\/
 (e= .returned (.bool true)/\∃K v' ng,F1 w0 w d v st R K v' ng w'/\v'.OL.length=K)
theorem abz{w0 w:World}{d:eD}{v:bS}{st:LS}{R:List Ru}{Nu:List Bool}{Fi:List (List Bool)}(E:iT w0 d R Nu Fi)(h:aj w0 w d v (aS d.T []) 0 st)(vJ:v.OL=[]):
 Calls Tryz.prog 59 #[.pointer (some ⟨d.ma,0,none⟩)] w (aby w0 w d v st R):=by
 have hR:=E.hR;have xD:=Gm (h.auto E);have hM1:=h.alloc (.cells #[.int .i64 R.length,.int .i64 0] 138)
 have hI1:iI (w.alloc (.cells #[.int .i64 R.length,.int .i64 0] 138)) (w.alloc (.cells #[.int .i64 R.length,.int .i64 0] 138)).heap.size (.slice (some ⟨w.heap.size,0,none⟩) 1 1) [(R.length,0)]:=by
  refine⟨⟨_,_,rfl⟩,fun k hk=> ?_⟩;obtain rfl:k=0:=by simpa using hk
  exact⟨w.heap.size,0,1,rfl,by simp,by simp[go_sem],by simp[go_sem]⟩
 have D7:=SI E hM1 hI1 ⟨by simp,by simp,by simp,fun x hx=>by simp only[List.mem_singleton]at hx;rw[hx];exact⟨Nat.le_refl _,Nat.zero_le _⟩,fun x hx _=>by simp only[List.mem_singleton]at hx;rw[hx]⟩ (by rw[vJ];simp) (fun k hk=>by rw[vJ]at hk;exact absurd hk (Nat.not_lt_zero _));have HE:Hid (iT w0 d R Nu Fi):=E;have HM:Hid (aj w0 w d v (aS d.T []) 0 st):=h;have HOL:Hid (v.OL=[]):=vJ;have hT:=E.hT;have hN:=E.hN.2;have hN1:=E.hN.1;clear E h hM1 hI1 vJ
 go_enter Tryz.func59,Tryz.ntmps59
 go_wp2_with
  (first
   |(go_at_call 79;refine xD.mono ?_;rintro e w1 ⟨rfl,rfl⟩)
   |(go_at_call 78;refine D7.mono ?_;rintro e w2 ⟨n,v2,C,rfl,hCs,pF,hSt,hov,hM2,hG2⟩
     have hF:F1 w0 w1 d v st R 0 v2 0 w2:=by
      have SS:v2.OL=[C]:=by
       rw[HOL.out]at hSt;rcases hSt with⟨h1,_,_⟩|⟨_,_,h3⟩
       ·exact absurd h1 (Nat.not_lt_zero _)
       ·simpa using h3
      refine⟨?_,?_,by rw[SS];simp,Nat.zero_le _,Nat.le_refl _,hov,(aF.bP ((Below.refl _ _).alloc (Nat.le_refl _) _)).trans hG2⟩
      ·exact hM2
      ·rw[SS];exact aae hCs pF
     have sys:=abw (hM2.auto HE.out) hT hN;have HF:Hid (F1 w0 w1 d v st R 0 v2 0 w2):=hF
     clear hF hCs pF hSt hov hM2 hG2 D7 xD)
   |(go_at_call 80;refine sys.mono ?_;rintro e w3 ⟨yv,rfl,hrow,hB3⟩
     obtain⟨ya,yc,hyv⟩:=bK hrow;subst hyv;have SV:Hid (F1 w0 w1 d v st R 0 v2 0 w3):=⟨HF.out.m.below hB3,HF.out.s,HF.out.few,HF.out.le,HF.out.ng,HF.out.ov,HF.out.g.trans (aF.bP hB3)⟩
     have HY:Hid (w3.ownsRow w2.heap.size 116 2 (.slice ya (d.T+d.N) yc) (d.T+d.N) ((jw d.T (d.T+d.N)).flatMap pG)/\∀g,(Value.slice ya (d.T+d.N) yc).ownBlock=some g->¬mY d v2 g):=⟨hrow,fun g hg hk=>by
      have:=(hrow.lt g hg).1;have:=(HF.out.m.kc hk).2
      omega⟩
     clear hrow hB3 sys HF))
 go_loopw [4] (fun s4 wr=> ∃(k:Nat) (v':bS) (ng:Nat),s4= .int .i64 k/\F1 w0 w1 d v st R k v' ng wr/\aF d v2 v' w3 wr) (fun s _=>151-(intOf s).toNat)
 case atStart=>exact⟨0,v2,0,rfl,SV.out,aF.refl _ _ _⟩
 case round=>
  clear SV;obtain⟨k,v',ng,rfl,hF,hG⟩:=hrel;have HF:Hid (F1 w0 w1 d v st R k v' ng wr):=hF;have HG:Hid (aF d v2 v' w3 wr):=hG;have c6:=(hF.m.cell (i:=6) rfl (by omega)).1;obtain⟨sa,sc,hsv⟩:=hF.m.states;rw[hsv]at c6;have vF:=hF.few;have hle:=hF.le;clear hF hG hsv;by_cases hlt:k<v'.OL.length
  ·obtain⟨p,hp⟩:∃p,v'.OL.length=p:=⟨_,rfl⟩
   rw[hp]at c6 vF hle hlt;have HP:Hid (v'.OL.length=p):=hp;clear hp
   go_wp2_with fail
   clear c6
   go_loopw [27] (fun D8 wq=> ∃(x:Nat) (v':bS) (ng:Nat),D8= .int .i64 x/\x<=d.T+d.N/\F2 w0 w1 d v st R k x v' ng wq/\aF d v2 v' w3 wq) (fun s _=>d.T+d.N-(intOf s).toNat)
   case atStart=>exact⟨0,v',ng,rfl,Nat.zero_le _,HF.out.into (by rw[HP.out];exact hlt),HG.out⟩
   case round=>
    clear HF HG HP;obtain⟨x,v',ng,rfl,hx,hF,hG⟩:=hrel;have HF:Hid (F2 w0 w1 d v st R k x v' ng wr):=hF;have HG:Hid (aF d v2 v' w3 wr):=hG;by_cases SX:x<d.T+d.N
    ·have hrow:=RZ HY.out.1 hG HY.out.2
     obtain⟨yg,afO,hyv,_,_⟩:=hrow.form (by omega);cases hyv
     have q:∀i,i<2->wr.cell? ⟨yg,x*2+i,none⟩=(pG (bR d.T x))[i]?:=fun i hi=>by
      rw[hrow.cellAt (x*2+i) (by omega),abr (by rw[abt];exact SX) hi,abu SX]
     have q0:=q 0 (by omega);have q1:=q 1 (by omega);have GQ:=hF.lens HE.out;have hkl:=QW (T:=d.T) (R:=R) (x:=x) (O:=v'.OL.getD k []) (j:=(v'.OL.getD k []).length);have hk3:=GQ k hF.lt;have Ba:=abx (x:=x) HE.out (hF.m.alloc (.cells #[.bool (bR d.T x).1,.int .i64 (bR d.T x).2] 116)) hF.s hF.lt;have hX:=hF.m.box #[.bool (bR d.T x).1,.int .i64 (bR d.T x).2] 116;have hM1:=hF.m.alloc (.cells #[.bool (bR d.T x).1,.int .i64 (bR d.T x).2] 116)
     have vw:bY d.T R (v'.OL.getD k []) x (v'.OL.getD k []).length≠[]->Lg R (bY d.T R (v'.OL.getD k []) x (v'.OL.getD k []).length):=fun hne=>
      ⟨ZG (hF.s.jo k hF.lt).qA,List.length_pos_iff.2 hne,by omega,fun i hi=>(hF.s.Rk hF.lt i hi).1,fun i hi h0=>absurd h0 (hF.s.Rk hF.lt i hi).2⟩
     have hsy:0<=(bR d.T x).2/\(bR d.T x).2<=20:=by unfold bR;split<;>simp<;>omega
     have abA:=hF.few;have hkb:k<v'.OL.length:=hF.lt;have ol:=hF.ng;obtain⟨y,hy⟩:∃y,bR d.T x=y:=⟨_,rfl⟩;have jH:Hid (bR d.T x=y):=hy;rw[hy]at q0 q1 Ba hX hM1 hsy;obtain⟨L,hL⟩:∃L,bY d.T R (v'.OL.getD k []) x (v'.OL.getD k []).length=L:=⟨_,rfl⟩;have HL:Hid (bY d.T R (v'.OL.getD k []) x (v'.OL.getD k []).length=L):=hL;rw[hL]at hkl Ba vw;have abB:Hid (L≠[]->Lg R L):=vw;have abC:Hid (∀j,j<v'.OL.length->(v'.OL.getD j []).length<=369):=GQ;obtain⟨yb,yn⟩:=y;simp only[pG,Nat.add_zero]at q0 q1 Ba hX hM1 hsy;have yY:wr.cell? ⟨yg,x*2,none⟩=some (.bool yb):=q0;have q1':wr.cell? ⟨yg,x*2+1,none⟩=some (.int .i64 yn):=q1;obtain⟨Gx,Li⟩:∃Gx,aS d.T ((af d.T d.N R k).1++[(bH d.T R k x (af d.T d.N R k).2).1])=Gx:=⟨_,rfl⟩;rw[Li]at hM1;have HGx:Hid (aS d.T ((af d.T d.N R k).1++[(bH d.T R k x (af d.T d.N R k).2).1])=Gx):=Li;have pI:Hid (bT (wr.alloc (.cells #[.bool yb,.int .i64 yn] 116)) d v' wr.heap.size #[.bool yb,.int .i64 yn] 116):=hX;have pE:Hid (aj w0 (wr.alloc (.cells #[.bool yb,.int .i64 yn] 116)) d v' Gx ng st):=hM1;have i0:(0:Int)<=(x:Int):=Int.natCast_nonneg _;have i1:(x:Int)<((d.T+d.N:Nat):Int):=by omega
     have i2:(x:Int)<(d.T:Int)+(d.N:Int):=by omega
     clear hF hG hrow q q0 q1 hy hL GQ vw hX hM1 Li;by_cases hnil:L=[]
     ·subst hnil
      go_wp2_with
       (go_at_call 81;refine Ba.mono ?_;rintro e w4 ⟨ov,rfl,hrow4,hB4⟩
        obtain⟨oa,oc,hov⟩:=bK hrow4;simp only[List.length_nil]at hov;subst hov;have gJ:Hid (Below wr.heap.size wr w4):=((Below.refl _ _).alloc (Nat.le_refl _) _).trans (hB4.mono (by simp))
        clear hrow4 hB4)
      go_roundw
      case rel=>exact⟨x+1,v',ng,by go_num,by omega,HF.out.none HL.out gJ.out,HG.out.trans (aF.bP gJ.out)⟩
      case measure=>simp[intOf];omega
     ·have hpos:0<L.length:=List.length_pos_iff.2 hnil
      have e1:((L.length:Int)==0)=false:=by simp;omega
      have DL:Hid (L≠[]):=hnil;clear hnil
      go_wp2_with
       (go_at_call 81;refine Ba.mono ?_;rintro e w4 ⟨ov,rfl,hrow4,hB4⟩
        obtain⟨oa,oc,hov⟩:=bK hrow4;subst hov;have Lj:=pE.out.below hB4;have xH:Hid (aj w0 w4 d v' Gx ng st):=Lj;have SY:Hid (bT w4 d v' wr.heap.size #[.bool yb,.int .i64 yn] 116):=pI.out.below hB4;have gJ:Hid (Below wr.heap.size wr w4):=((Below.refl _ _).alloc (Nat.le_refl _) _).trans (hB4.mono (by simp));have D7:=SI HE.out Lj.drew (show iI w4.drew w4.drew.heap.size _ _ from AA hrow4 rfl) (abB.out DL.out) abA (fun j hj=>by have:=abC.out j hj;omega)
        clear hrow4 hB4 Lj Ba)
      have keep:∀{wx:World} {u:bS} {Gu:Wy->Option Value} {nu:Nat},aj w0 wx d u Gu nu st->bT wx d u wr.heap.size #[.bool yb,.int .i64 yn] 116->
       wx.cell? ⟨d.ma,7,none⟩=some (.map (some d.mg))/\wx.cell? ⟨wr.heap.size,0,none⟩=some (.bool yb)/\wx.cell? ⟨wr.heap.size,1,none⟩=some (.int .i64 yn):=fun {wx u Gu nu} hM hX=>
       ⟨(hM.cell (i:=7) rfl (by omega)).1,hX.cell rfl,hX.cell rfl⟩
      have hS4:=keep xH.out.drew SY.out.drew
      have oh:Hid (∀{wx:World} {u:bS} {Gu:Wy->Option Value} {nu:Nat},aj w0 wx d u Gu nu st->bT wx d u wr.heap.size #[.bool yb,.int .i64 yn] 116->
       wx.cell? ⟨d.ma,7,none⟩=some (.map (some d.mg))/\wx.cell? ⟨wr.heap.size,0,none⟩=some (.bool yb)/\wx.cell? ⟨wr.heap.size,1,none⟩=some (.int .i64 yn)):=keep
      clear keep;obtain⟨s0,s1,s2⟩:=hS4
      go_cut [] from 28 (fun wx=> ∃(n:Nat) (v5:bS) (C:List It),C.Pairwise iq/\(∀i,i∈C↔Cl R (· ∈L) i)/\Dw v'.OL C n v5.OL/\v5.ov=v'.ov/\aj w0 wx d v5 (eT Gx (k,(yb,yn)) (.int .i64 n)) (ng+1) st/\aF d v' v5 wr wx)
      case first=>
       go_region_held3 (fun wx=>wx.cell? ⟨d.ma,7,none⟩=some (.map (some d.mg))/\wx.cell? ⟨wr.heap.size,0,none⟩=some (.bool yb)/\wx.cell? ⟨wr.heap.size,1,none⟩=some (.int .i64 yn)) (first|assumption|exact⟨s0,s1,s2⟩|go_keep)
        (first
         |(go_at_call 78;refine D7.mono ?_;rintro e w5 ⟨n,v5,C,rfl,hCs,pF,hSt,hov,fT,rG⟩
           have Ll:=SY.out.drew.goes rG;have hS5:=oh.out fT Ll;obtain⟨w6,u6,jv,o9,-⟩:=fT.gN (p:=(k,(yb,yn))) (by simp only;omega) hsy.1 (by simp only;omega) (.int .i64 n);unfold o7 at u6;simp only at u6;have hS6:=oh.out jv (Ll.goes o9);have H6:Hid (C.Pairwise iq/\(∀i,i∈C↔Cl R (· ∈L) i)/\Dw v'.OL C n v5.OL/\v5.ov=v'.ov/\aj w0 w6 d v5 (eT Gx (k,(yb,yn)) (.int .i64 n)) (ng+1) st/\aF d v' v5 wr w6):=⟨hCs,pF,hSt,hov,jv,((aF.bP gJ.out).drew.trans rG).trans o9⟩
           clear hCs pF hSt hov fT rG Ll jv o9))
       all_goals
        go_wp2_with fail
        go_meet
        case rel=>exact⟨n,v5,C,H6.out⟩
      case rest=>
       obtain⟨n,v5,C,hCs,pF,hSt,hov,fT,rG⟩:=hcut;have c6:=(fT.cell (i:=6) rfl (by omega)).1;obtain⟨sa5,sc5,A7⟩:=fT.states;rw[A7]at c6;obtain⟨r1,r2⟩:=HF.out.some (by rw[HL.out];exact DL.out) hCs (by rw[HL.out];exact pF) hSt (by rw[HGx.out,jH.out];exact fT) hov rG;have Ta:=r1.len
       have hp5:v5.OL.length<=151:=by
        rcases hSt with⟨_,_,e2⟩|⟨_,_,e2⟩
        ·rw[e2];omega
        ·rw[e2,List.length_append,List.length_cons,List.length_nil];omega
       have HR2:Hid (v5.OL.length<=150->F2 w0 w1 d v st R k (x+1) v5 (ng+1) wc):=r2;have Tc:Hid (150<v5.OL.length->More d.T d.N R 150):=fun hgt=>⟨k,x+1,HF.out.b,by omega,by rw[<-Ta];exact hgt⟩;have ve:Hid (aF d v' v5 wr wc):=rG;have Lm:Hid (Below w0.heap.size w1 wc):=(HM.out.nR HF.out.g).trans (HF.out.m.nR rG);obtain⟨p5,hp⟩:∃p5,v5.OL.length=p5:=⟨_,rfl⟩;rw[hp]at c6 hp5 HR2 Tc;clear hCs pF hSt hov fT rG A7 r1 r2 Ta s0 s1 s2 D7 hp;by_cases hgt:p5<=150
       ·have d1:decide (150<p5)=false:=decide_eq_false (by omega)
        go_wp2_with fail
        go_roundw
        case rel=>exact⟨x+1,v5,ng+1,by go_num,by omega,HR2.out hgt,HG.out.trans ve.out⟩
        case measure=>simp[intOf];omega
       ·have d1:decide (150<p5)=true:=decide_eq_true (by omega)
        go_wp2_with fail
        go_ret;exact .inl ⟨rfl,Tc.out (by omega),Lm.out⟩
    ·obtain rfl:x=d.T+d.N:=by omega
     clear hF hG
     go_wp2_with fail
     go_roundw
     case rel=>exact⟨k+1,v',ng,by go_num,HF.out.out (by omega),HG.out⟩
     case measure=>simp[intOf];omega
  ·have HE2:Hid (v'.OL.length=k):=by show v'.OL.length=k;omega
   go_wp2_with fail
   go_ret;exact .inr ⟨rfl,k,v',ng,HF.out,HE2.out⟩
section
variable{w:World}{base:Nat}{sv nv:Value}{vi vr:Nat->Value}{OL:List (List It)}{NL:List (List Int)}{c l:Option Row}
end
section
variable{w wr:World}{ab lim T N:Nat}{rv sv nv:Value}{R:List Ru}
end
section
variable{w wr:World}{ab lim T N:Nat}{rv sv nv lv:Value}{R:List Ru}{vi vr:Nat->Value}{OL:List (List It)}{NL:List (List Int)}
end
section
variable{w:World}{base T m jc:Nat}{OL:List (List It)}{lv:Value}{vl:Nat->Value}{vb:Nat->Nat->Value}
end
section
variable{w w':World}{base ab lim T N:Nat}{OL:List (List It)}{NL:List (List Int)}{rv sv nv lv nuv fiv:Value}{vi vr vl:Nat->Value}{vb:Nat->Nat->Value}{R:List Ru}{Nu:List Bool}{Fi:List (List Bool)}
end
section
variable{w wr:World}{sh:Int}{L:List Int}{en:Bool}{rv:Value}
end
theorem Td{w:World}{base n:Nat}{v:Value}{X:List Int}(h:w.ownsRow base 3 1 v n (X.map (Value.int .i64))):aP w w.heap.size v X:=by
 have hl:X.length=n:=by simpa using h.1
 obtain⟨a,c,hv⟩:=bK h;refine⟨⟨a,c,by rw[hv,hl]⟩,fun i hi=> ?_⟩;obtain⟨g,cap,rfl,_,_⟩:=h.form (by omega);refine⟨g,0,cap,by rw[hl],(h.lt g rfl).2,?_⟩;rw[Nat.zero_add,h.cellAt i (by omega)];simp[List.getD,hi]
section
variable{w:World}{base:Nat}{cv gv:Value}{vc vg:Nat->Value}{vr:Nat->Nat->Value}{C:List (List Ce)}{G:List (List Int)}
end
end Go.Proofs.YtblkkhfdeaaidaaGreatDoor

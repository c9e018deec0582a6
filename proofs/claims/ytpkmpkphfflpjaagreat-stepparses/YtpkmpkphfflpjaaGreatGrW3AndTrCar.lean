import Derived.Test.YtpkmpkphfflpjaaGreatTrGrowAndGrW2
import Derived.Deep.RegionHeld3
import Derived.Deep.RegionLaw
import Derived.Deep.Cut
import Derived.Deep.CutRange
import Derived.Deep.DrawnRows
import Derived.StillTactics
import Derived.OwnWalk
import Derived.Laws.Pointers
import Derived.Defers
import Derived.Recover
set_option maxHeartbeats 3200000
set_option maxRecDepth 100000
namespace Go.Proofs.YtpkmpkphfflpjaaGreat
open Go.RowKit
attribute [local go_sem ↓] Go.wp_at_zero Go.wp_at_succ
theorem Tryz.infoGrSp:(Tryz.prog.info? 178).map (fun i=>(i.zero,i.size,i.bytes))=some (some (.agg #[.int .i64 0,.int .i64 0,.int .i64 0]),3,24):=by kernel_rfl
theorem Tryz.infoGrI:(Tryz.prog.info? 3).map (fun i=>(i.zero,i.size,i.bytes))=some (some (.int .i64 0),1,8):=by kernel_rfl
structure lN(D:List Int)(M:Nat)(st:St)(more:Nat):Prop where
 pos:st.pos<=D.length
 len:st.S.length<=st.pos
 rR:st.Y.length+more+(D.length-st.pos)*M<=1099511627776
theorem lN.grew{D:List Int}{M:Nat}{st st':St}{more:Nat}(h:lN D M st more)(g:FY D M st st' 0):lN D M st' more:=by
 obtain⟨T,h1,h2,_⟩:=g.seg;have:=g.rR h.pos;have:=h.rR;have:=h.len;have:=g.pos;refine⟨g.top h.pos,by rw[h1,List.length_append];omega,by omega⟩
theorem lN.push{D:List Int}{M:Nat}{st:St}{more:Nat}(h:lN D M st (more+1))(x:Int):lN D M { st with Y:=st.Y++[x] } more:=by
 have:=h.rR;exact⟨h.pos,h.len,by simp only[List.length_append,List.length_cons,List.length_nil];omega⟩
theorem lN.next{D:List Int}{M:Nat}{st:St}(h:lN D M st 0)(hp:st.pos<D.length){m:Nat}(hm:m<=M)(t:Sp):lN D M { pos:=st.pos+1,Y:=st.Y,S:=st.S++[t] } m:=by
 have:=h.len;have e:D.length-st.pos=(D.length-(st.pos+1))+1:=by omega
 refine⟨by simp only;omega,by simp only[List.length_append,List.length_cons,List.length_nil];omega,?_⟩;have h1:=h.rR;rw[e,Nat.add_mul,Nat.one_mul]at h1;simp only;omega
theorem lN.less{D:List Int}{M:Nat}{st:St}{a b:Nat}(h:lN D M st a)(hb:b<=a):lN D M st b:=by
 have:=h.rR;exact⟨h.pos,h.len,by omega⟩
theorem Q5{W:World}{B rb:Nat}{tv nv rv dv:Value}{R:List Ru}{D:List Int}{M:Nat}
 (hr:aD W B rv R) (hd:aH W B dv D) (hD:D.length<=400) (hM:∀q,(R.getD q (0,[])).2.length<=M) (hM':M<=2147483648):∀(k:Nat) (n:Int) (st:St) (w:World) (yv sv:Value),
 Inv W B rb tv nv rv dv w st yv sv->D.length-st.pos<=k->lN D M st 0->
 Calls Tryz.prog 85 #[.pointer (some ⟨rb,0,none⟩),.int .i64 n] w fun e w'=>
  (∃st' Zu dz,fq R D k n st=some st'/\e= .returned (.tuple #[])/\Inv W B rb tv nv rv dv w' st' Zu dz)\/
  (fq R D k n st=none/\e= .panicked vK/\Weak W B rb w'):=by
 intro k
 induction k with
 |zero=>
  intro n st w yv sv hI hk hF;have hp:=hF.pos;have hq:lI R D n st.pos=none:=by simp[lI,List.getElem?_eq_none (show D.length<=st.pos by omega)]
  go_enter Tryz.func85,Tryz.ntmps85
  go_wp2_with (go_at_call 94;refine(Q0 hI hr hd hD hq).mono ?_;rintro e w1 ⟨rfl,hW⟩)
  exact⟨rfl,.inr ⟨rfl,rfl,hW⟩⟩
 |succ k ih=>
  intro n st w yv sv hI hk hF;cases hq:lI R D n st.pos with
  |none=>
   go_enter Tryz.func85,Tryz.ntmps85
   go_wp2_with (go_at_call 94;refine(Q0 hI hr hd hD hq).mono ?_;rintro e w1 ⟨rfl,hW⟩)
   exact⟨rfl,.inr ⟨by simp only[fq,hq],rfl,hW⟩⟩
  |some q=>
   obtain⟨sa,sc,rfl⟩:=aY hI.mW;obtain⟨ya,yc,rfl⟩:=aY hI.o7
   go_enter Tryz.func85,Tryz.ntmps85
   go_wp2_with (go_at_call 94;refine(Zt hI hr hd hD hq).mono ?_;rintro e w1 ⟨rfl,hI1⟩;have c2:=hI1.c2;have c5:=hI1.c5;have c6:=hI1.c6;have f6:=hI1.fr 6)
   have mW:=hI1.mW;have hne:∀g,(Value.slice sa st.S.length sc).ownBlock=some g->g≠rb:=fun g hg=>by have:=(hI1.Hu hg).1;omega
   have ag:(Value.slice sa st.S.length sc).ownBlock≠some rb:=fun e=>hne rb e rfl;have hlt1:=hI1.lt;have hSl:=hF.len;have hSp:=hF.pos;have hn1:st.S.length+1<=maxLen:=by unfold maxLen;omega
   have hn2:(st.S.length+1)*24<=140737488355328:=by omega
   have hI2:=(hI1.alloc (.cells #[.int .i64 q,.int .i64 st.Y.length,.int .i64 0] 178)).drew;have a6:=(hI1.alloc (.cells #[.int .i64 q,.int .i64 st.Y.length,.int .i64 0] 178)).c6;have a5:=(hI1.alloc (.cells #[.int .i64 q,.int .i64 st.Y.length,.int .i64 0] 178)).c5;obtain⟨i0,hi0,hz0,hz1,hz2⟩:=info_parts Tryz.infoGrSp
   go_cut [] from 8 (fun wx=> ∃g cap,Inv W B rb tv nv rv dv wx { pos:=st.pos+1,Y:=st.Y,S:=st.S++[((q:Int),st.Y.length,0)] } (.slice ya st.Y.length yc) (.slice (some ⟨g,0,none⟩) (st.S.length+1) cap))
   case first=>
    go_region_law
     ((refine step_append_lies _ (by rfl) _ _ _ (by rfl) (rb+2) 178 i0 _ 3 24 Tryz.underlying145 hi0 hz0 hz1 hz2 rfl (by omega) (.slice sa st.S.length sc) st.S.length (jJ st.S) (by rfl) ((mW.alloc _).drew)
        ⟨w1.heap.size,0,none⟩ 1 1 [.int .i64 q,.int .i64 st.Y.length,.int .i64 0] (by rfl) (by rfl) (World.news_of_block (cs:= #[.int .i64 q,.int .i64 st.Y.length,.int .i64 0]) (t:=178) (fr:=(0,0)) (heap_alloc_new w1 _)) (by simp[Value.oneCell'])
        (by omega) hn1 hn2 (by simp;omega) (w1.heap.size+1) (by simp) ?_;intro g cap w2 hown2 hgrow hat hlt;have wY:=(hgrow.cell_far ⟨rb,6,none⟩ (by simp;omega) (Ne.symm ag)).trans hI2.c6;have Zv:=(hgrow.frozen_far ⟨rb,6,none⟩ (by simp;omega) (Ne.symm ag)).trans (hI2.fr 6)))
    all_goals
     go_wp2_with fail
     go_meet
     case rel=>exact⟨_,_,Inv.Zq (t:=((q:Int),st.Y.length,0)) hI2 hgrow hown2 (by simpa using hat)⟩
   case rest=>
    obtain⟨g,cap,Hw⟩:=hcut;clear hI2 hI1 mW ag hne a5 a6 c2 c5 c6 f6 hlt1 hn1 hn2 hi0 hz0 hz1 hz2;obtain⟨wN,Kv,_⟩:=Ke hq;obtain⟨b,o,rc,qa,qc,hv,Q6,_,k2,_,k3⟩:=hr.2 q Kv;obtain⟨Rt,jX⟩:∃Rt,(R.getD q (0,[])).2=Rt:=⟨_,rfl⟩;rw[jX]at k2 k3;have Zw:Rt.length<=M:=by rw[<-jX];exact hM q
    have Zx:st.pos<D.length:=by
     rcases Nat.lt_or_ge st.pos D.length with h|h
     ·exact h
     ·rw[List.getElem?_eq_none h]at wN;cases wN
    have DC:lN D M { pos:=st.pos+1,Y:=st.Y,S:=st.S++[((q:Int),st.Y.length,0)] } Rt.length:=hF.next Zx Zw _;have HQ:Hid (lI R D n st.pos=some q):=hq;have HR:Hid ((R.getD q (0,[])).2=Rt):=jX;have c2:=Hw.c2;rw[hv]at c2;have k2':wc.cell? ⟨b,o+q*2+1,none⟩=some (.slice qa Rt.length qc):=by rw[Nat.add_assoc];exact(Hw.below.cell Q6).trans k2
    clear hv jX k2 hq wN
    go_wp2_with fail
    clear c2 k2' Q6
    go_loopw [42] (fun i wr=> ∃(j:Nat) (st1:St) (Q7 wZ:Value),i= .int .i64 j/\j<=Rt.length/\st.pos+1<=st1.pos/\Inv W B rb tv nv rv dv wr st1 Q7 wZ/\lN D M st1 (Rt.length-j)/\
     fM (fq R D k) (Rt.drop j) st1=fM (fq R D k) Rt { pos:=st.pos+1,Y:=st.Y,S:=st.S++[((q:Int),st.Y.length,0)] })
     (fun i _=>Rt.length-(intOf i).toNat)
    case atStart=>exact⟨0,_,_,_,rfl,Nat.zero_le _,Nat.le_refl _,Hw,by simpa using DC,by simp⟩
    case round=>
     obtain⟨j,st1,Q7,wZ,rfl,hj,hp1,o8,DF,hsy⟩:=hrel;have HS:Hid (fM (fq R D k) (Rt.drop j) st1=fM (fq R D k) Rt { pos:=st.pos+1,Y:=st.Y,S:=st.S++[((q:Int),st.Y.length,0)] }):=hsy;clear hsy DC Hw hI;by_cases hlt:j<Rt.length
     ·obtain⟨b',o',eF,hb',k4,k5⟩:=k3 j hlt
      have yT:=(o8.below.cell (p:=⟨b',o'+j*2,none⟩) hb').trans k4;have Zy:wr.cell? ⟨b',o'+j*2+1,none⟩=some (.int .i64 (Rt.getD j (false,0)).2):=by rw[Nat.add_assoc];exact(o8.below.cell (p:=⟨b',o'+(j*2+1),none⟩) hb').trans k5
      obtain⟨⟨t,v⟩,Dv⟩:∃x,Rt.getD j (false,0)=x:=⟨_,rfl⟩
      have hdrop:Rt.drop j=(t,v)::Rt.drop (j+1):=by
       rw[List.drop_eq_getElem_cons hlt]
       congr 1
       rw[<-Dv];simp[List.getD,hlt]
      rw[Dv]at yT Zy;have HD:Hid (Rt.drop j=(t,v)::Rt.drop (j+1)):=hdrop;clear k4 k5 k3 Dv hdrop;subst eF;cases t with
      |true=>
       obtain⟨LH,LJ,rfl⟩:=aY o8.o7;have ag:(Value.slice LH st1.Y.length LJ).ownBlock≠some rb:=fun e=>by have:=(o8.LG e).1;omega
       have hlt1:=o8.lt;have Kh:=DF.rR;have hn1:st1.Y.length+1<=maxLen:=by unfold maxLen;omega
       have hn2:(st1.Y.length+1)*8<=140737488355328:=by omega
       have LK:lN D M { st1 with Y:=st1.Y++[v] } (Rt.length-(j+1)):=lN.push (more:=Rt.length-(j+1)) (by rw[show Rt.length-(j+1)+1=Rt.length-j by omega];exact DF) v
       have HX:Hid (fM (fq R D k) (Rt.drop j) st1=fM (fq R D k) (Rt.drop (j+1)) { st1 with Y:=st1.Y++[v] }):=by
        show fM (fq R D k) (Rt.drop j) st1=_;rw[HD.out,fM]
       clear Kh;have xg:=o8.alloc (.cells #[.bool true,.int .i64 v] 104);have c5:=xg.c5;have f5:=xg.fr 5;have yU:=xg.alloc (.cells #[.int .i64 v] 3);have a5:=yU.c5;have o7:=yU.o7;have LM:=yU.drew
       have hnb:((wr.alloc (.cells #[.bool true,.int .i64 v] 104)).alloc (.cells #[.int .i64 v] 3)).drew.heap[wr.heap.size+1]?=some (.cells #[.int .i64 v] 3 (0,0)):=by
        show ((wr.alloc (.cells #[.bool true,.int .i64 v] 104)).alloc (.cells #[.int .i64 v] 3)).heap[wr.heap.size+1]?=_;simpa using heap_alloc_new (wr.alloc (.cells #[.bool true,.int .i64 v] 104)) (.cells #[.int .i64 v] 3)
       have HB:Hid (((wr.alloc (.cells #[.bool true,.int .i64 v] 104)).alloc (.cells #[.int .i64 v] 3)).drew.heap[wr.heap.size+1]?=some (.cells #[.int .i64 v] 3 (0,0))):=hnb;clear hnb
       have s1:((wr.alloc (.cells #[.bool true,.int .i64 v] 104)).alloc (.cells #[.int .i64 v] 3)).cell? ⟨wr.heap.size,1,none⟩=some (.int .i64 v):=by
        rw[World.cell?_alloc_past _ _ _ (by simp)];simp[go_sem]
       obtain⟨i0,hi0,hz0,hz1,hz2⟩:=info_parts Tryz.infoGrI
       go_wp2_with fail
       go_region_law
        ((refine step_append_lies _ (by rfl) _ _ _ (by rfl) (rb+2) 3 i0 _ 1 8 Tryz.underlying27 hi0 hz0 hz1 hz2 rfl (by omega) (.slice LH st1.Y.length LJ) st1.Y.length (st1.Y.map (Value.int .i64)) (by rfl) (o7.drew)
           ⟨wr.heap.size+1,0,none⟩ 1 1 [.int .i64 v] (by rfl) (by rfl) (World.news_of_block (cs:= #[.int .i64 v]) (t:=3) (fr:=(0,0)) HB.out) (by simp[Value.oneCell'])
           (by omega) hn1 hn2 (by simp;omega) (wr.heap.size+2) (by simp) ?_;intro g2 cap2 w2 hown2 hgrow hat hlt;have c5':=(hgrow.cell_far ⟨rb,5,none⟩ (by simp;omega) (Ne.symm ag)).trans LM.c5;have f5':=(hgrow.frozen_far ⟨rb,5,none⟩ (by simp;omega) (Ne.symm ag)).trans (LM.fr 5)))
       all_goals
        go_wp2_with fail
        go_roundw
        case rel=>exact⟨j+1,{ st1 with Y:=st1.Y++[v] },_,_,by go_num,by omega,hp1,Inv.Zp LM hgrow hown2 (by simpa using hat),LK,HX.out.symm.trans HS.out⟩
        case measure=>simp[intOf];omega
      |false=>
       have xg:=o8.alloc (.cells #[.bool false,.int .i64 v] 104);cases hn:fq R D k v st1 with
       |none=>
        have call:Calls Tryz.prog 85 #[.pointer (some ⟨rb,0,none⟩),.int .i64 v] (wr.alloc (.cells #[.bool false,.int .i64 v] 104)) fun e w'=>e= .panicked vK/\Weak W B rb w':=
         (ih v st1 _ _ _ xg (by omega) (DF.less (Nat.zero_le _))).mono (by
          rintro e w' (⟨st2,_,_,h2,_⟩|⟨_,rfl,hW⟩)
          ·rw[hn]at h2;cases h2
          ·exact⟨rfl,hW⟩)
        have HX:Hid (fM (fq R D k) (Rt.drop j) st1=none):=by
         show fM (fq R D k) (Rt.drop j) st1=none;rw[HD.out,fM,hn]
        clear hn xg
        go_wp2_with (go_at_call 85;refine call.mono ?_;rintro e w2 ⟨rfl,hW⟩)
        exact⟨rfl,.inr ⟨Xw HQ.out HR.out (HS.out.symm.trans HX.out),rfl,hW⟩⟩
       |some st2=>
        have call:Calls Tryz.prog 85 #[.pointer (some ⟨rb,0,none⟩),.int .i64 v] (wr.alloc (.cells #[.bool false,.int .i64 v] 104)) fun e w'=>e= .returned (.tuple #[])/\∃DI DJ,Inv W B rb tv nv rv dv w' st2 DI DJ:=
         (ih v st1 _ _ _ xg (by omega) (DF.less (Nat.zero_le _))).mono (by
          rintro e w' (⟨st3,DI,DJ,h2,rfl,yU⟩|⟨h2,_⟩)
          ·rw[hn]at h2;cases h2;exact⟨rfl,DI,DJ,yU⟩
          ·rw[hn]at h2;cases h2)
        have HX:Hid (fM (fq R D k) (Rt.drop j) st1=fM (fq R D k) (Rt.drop (j+1)) st2):=by
         show fM (fq R D k) (Rt.drop j) st1=_;rw[HD.out,fM,hn]
        obtain⟨gr,grp,_⟩:=Pp hM k v st1 st2 hn;have LK:lN D M st2 (Rt.length-(j+1)):=(DF.less (by omega)).grew gr;clear hn xg gr
        go_wp2_with (go_at_call 85;refine call.mono ?_;rintro e w2 ⟨rfl,DI,DJ,yU⟩)
        go_roundw
        case rel=>exact⟨j+1,st2,DI,DJ,by go_num,by omega,by omega,yU,LK,HX.out.symm.trans HS.out⟩
        case measure=>simp[intOf];omega
     ·have Q8:Rt.drop j=[]:=List.drop_of_length_le (by omega)
      have HX:fM (fq R D k) Rt { pos:=st.pos+1,Y:=st.Y,S:=st.S++[((q:Int),st.Y.length,0)] }=some st1:=by rw[<-HS.out,Q8,fM]
      have gr:=Po (M:=M) (fun n st st' h=>(Pp hM k n st st' h).1) _ _ _ HX;obtain⟨T,hT,_,_⟩:=gr.seg;simp only[List.append_assoc,List.singleton_append]at hT;have LP:st1.S[st.S.length]?=some ((q:Int),st.Y.length,0):=by rw[hT];simp
      have hpl:st.S.length<st1.S.length:=by rw[hT];simp
      obtain⟨g1,uw,rfl,_,_⟩:=o8.mW.form (by omega);obtain⟨LH,LJ,rfl⟩:=aY o8.o7;have HN:=Xv HQ.out HR.out HX;have LQ:Hid (fq R D (k+1) n st=some { st1 with S:=st1.S.set st.S.length ((q:Int),st.Y.length,st1.Y.length) }):=HN;have HI:=(o8.drew).Zr (v:=st1.Y.length) LP;have c5:=o8.c5;have c6:=o8.c6;have cT:wr.cell? ⟨g1,st.S.length*3+2,none⟩=some (.int .i64 0):=by rw[o8.mW.cellAt _ (by omega)];exact(Zn LP).2.2
      have fT:=o8.mW.frozenAt (st.S.length*3+2);have hi1:(st.S.length:Int)<(st1.S.length:Int):=by omega
      have hi2:(0:Int)<=(st.S.length:Int):=Int.natCast_nonneg _;clear HN HX Q8 hT gr LP
      go_wp2_with fail
      go_region
      all_goals
       go_end0
       exact .inl ⟨_,_,_,LQ.out,rfl,HI⟩
end Go.Proofs.YtpkmpkphfflpjaaGreat
namespace Go.Proofs.YtpkmpkphfflpjaaGreat
open Go.RowKit
def nN(w:World)(rb:Nat)(v0 v1 v2 v3 v4 v5 v6 v7:Value):World:=
 (((((((w.setCell ⟨rb,0,none⟩ v0).setCell ⟨rb,1,none⟩ v1).setCell ⟨rb,2,none⟩ v2).setCell ⟨rb,3,none⟩ v3).setCell ⟨rb,4,none⟩ v4).setCell ⟨rb,5,none⟩ v5).setCell ⟨rb,6,none⟩ v6).setCell ⟨rb+1,0,none⟩ v7
theorem LU{W w:World}{B rb:Nat}(h:Below B W w)(hb:B<=rb)(v0 v1 v2 v3 v4 v5 v6 v7:Value):Below B W (nN w rb v0 v1 v2 v3 v4 v5 v6 v7):=by
 unfold nN;exact(((((((h.setCell hb _).setCell hb _).setCell hb _).setCell hb _).setCell hb _).setCell hb _).setCell hb _).setCell (by simp only;omega) _
theorem Q9{w:World}{rb:Nat}{e:TypeId}{size:Nat}{v:Value}{n:Nat}{xs:List Value}(h:w.ownsRow (rb+2) e size v n xs)(v0 v1 v2 v3 v4 v5 v6 v7:Value):
 (nN w rb v0 v1 v2 v3 v4 v5 v6 v7).ownsRow (rb+2) e size v n xs:=by
 unfold nN
 exact ownsRow_setCell_below (ownsRow_setCell_below (ownsRow_setCell_below (ownsRow_setCell_below (ownsRow_setCell_below (ownsRow_setCell_below (ownsRow_setCell_below (ownsRow_setCell_below h
  (by simp only;omega) _) (by simp only;omega) _) (by simp only;omega) _) (by simp only;omega) _) (by simp only;omega) _) (by simp only;omega) _) (by simp only;omega) _) (by simp only;omega) _
theorem LV{W w:World}{B rb:Nat}(h:Weak W B rb w)(v0 v1 v2 v3 v4 v5 v6 v7:Value):
 (nN w rb v0 v1 v2 v3 v4 v5 v6 v7).cell? ⟨rb,0,none⟩=some v0/\(nN w rb v0 v1 v2 v3 v4 v5 v6 v7).cell? ⟨rb,1,none⟩=some v1/\(nN w rb v0 v1 v2 v3 v4 v5 v6 v7).cell? ⟨rb,2,none⟩=some v2/\
 (nN w rb v0 v1 v2 v3 v4 v5 v6 v7).cell? ⟨rb,3,none⟩=some v3/\(nN w rb v0 v1 v2 v3 v4 v5 v6 v7).cell? ⟨rb,4,none⟩=some v4/\(nN w rb v0 v1 v2 v3 v4 v5 v6 v7).cell? ⟨rb,5,none⟩=some v5/\
 (nN w rb v0 v1 v2 v3 v4 v5 v6 v7).cell? ⟨rb,6,none⟩=some v6/\(nN w rb v0 v1 v2 v3 v4 v5 v6 v7).cell? ⟨rb+1,0,none⟩=some v7:=by
 obtain⟨u0,c0⟩:=h.cs 0 (by omega);obtain⟨u1,c1⟩:=h.cs 1 (by omega);obtain⟨u2,c2⟩:=h.cs 2 (by omega);obtain⟨u3,c3⟩:=h.cs 3 (by omega);obtain⟨u4,c4⟩:=h.cs 4 (by omega);obtain⟨u5,c5⟩:=h.cs 5 (by omega);obtain⟨u6,c6⟩:=h.cs 6 (by omega);have c7:=h.ok;unfold nN;refine⟨?_,?_,?_,?_,?_,?_,?_,?_⟩<;>simp[go_sem,c0,c1,c2,c3,c4,c5,c6,c7]
theorem Ra(rb:Nat)(u:TypeId)(pv:Value)(older:List PanicEntry)(w:World)
 (v0 v1 v2 v3 v4 v5 v6 v7:Value) (c0:w.cell? ⟨rb,0,none⟩=some v0) (c1:w.cell? ⟨rb,1,none⟩=some v1) (c2:w.cell? ⟨rb,2,none⟩=some v2) (c3:w.cell? ⟨rb,3,none⟩=some v3)
 (c4:w.cell? ⟨rb,4,none⟩=some v4) (c5:w.cell? ⟨rb,5,none⟩=some v5) (c6:w.cell? ⟨rb,6,none⟩=some v6)
 (hz:∀o,w.frozen? ⟨rb,o,none⟩=false) (c7:w.cell? ⟨rb+1,0,none⟩=some v7) (Zz:w.frozen? ⟨rb+1,0,none⟩=false):
 CallsD Tryz.prog 84 #[.pointer (some ⟨rb,0,none⟩),.pointer (some ⟨rb+1,0,none⟩)] (.panicking ({ v:= .iface u pv,recovered:=false }::older)) w fun e u' w'=>
  e= .returned (.tuple #[])/\u'= .panicking ({ v:= .iface u pv,recovered:=true }::older)/\w'=nN w rb (.int .i64 0) (.int .i64 0) (.slice none 0 0) (.slice none 0 0) (.int .i64 0) (.slice none 0 0) (.slice none 0 0) (.bool false):=by
 refine callsD_of_wpS Tryz.func84 rfl fun c₀ cs hu=> ?_;apply wpS_seq;apply wpS_region;simp[wpOpsS,go_sem,recoverD,hu,Tryz.ntmps84,Exit.thenS];refine wpS_cond (t:=true) (by simp[Act.eval,Array.replicate]) ?_;simp only[if_true];apply wpS_region;simp[wpOpsS,go_sem,c0,c1,c2,c3,c4,c5,c6,c7,hz,Zz,bodyPostS,results,Tryz.results84,nN]
theorem ZA(rb:Nat)(w:World):
 CallsD Tryz.prog 84 #[.pointer (some ⟨rb,0,none⟩),.pointer (some ⟨rb+1,0,none⟩)] .returning w fun e u' w'=>e= .returned (.tuple #[])/\u'= .returning/\w'=w:=by
 refine callsD_of_wpS Tryz.func84 rfl fun c₀ cs hu=> ?_;apply wpS_seq;apply wpS_region;simp[wpOpsS,go_sem,recoverD,hu,Tryz.ntmps84,Exit.thenS];refine wpS_cond (t:=false) (by simp[Act.eval,Array.replicate]) ?_;simp only[Bool.false_eq_true,if_false];refine wpS_of_wp (wp_skip ?_);cases c₀
 simp_all [bodyPostS,results,Tryz.results84 ]
def laid(w:World)(T N:Int)(rv dv:Value):World:=
 ((w.alloc (.cells #[.int .i64 T,.int .i64 N,rv] 24)).alloc (.cells #[.int .i64 T,.int .i64 N,rv,dv,.int .i64 0,.slice none 0 0,.slice none 0 0] 147)).alloc (.cells #[.bool false] 4)
theorem Rb(w:World)(T N:Int)(rv dv:Value):
 Inv w w.heap.size (w.heap.size+1) (.int .i64 T) (.int .i64 N) rv dv (laid w T N rv dv) { pos:=0,Y:=[],S:=[] } (.slice none 0 0) (.slice none 0 0):=by
 unfold laid;refine⟨((((Below.refl _ _).alloc (Nat.le_refl _) _).alloc (by simp) _).alloc (by simp;omega) _),by omega,by simp,?_,?_,?_,?_,?_,?_,?_,fun o=> ?_,?_,?_,World.ownsRow_nil _ _ _ _,World.ownsRow_nil _ _ _ _,fun g h=>by simp[Value.ownBlock]at h⟩<;>simp[go_sem]
def xh:Value:= .agg #[.int .i64 0,.int .i64 0,.slice none 0 0,.slice none 0 0,.int .i64 0,.slice none 0 0,.slice none 0 0]
theorem ZB(T N:Int)(rv:Value)(da:Option Addr)(L dc:Nat)(w:World)(hL:400<L):
 Calls Tryz.prog 64 #[.agg #[.int .i64 T,.int .i64 N,rv],.slice da L dc] w fun e w'=>
  e= .returned (.tuple #[xh,.bool false])/\Below w.heap.size w w':=by
 unfold xh
 go_enter_defers Tryz.func64,Tryz.ntmps64
 go_wp2_with fail
 exact⟨_,by simp[results,Tryz.results64,go_sem],rfl,(((Below.refl _ _).alloc (Nat.le_refl _) _).alloc (by simp) _).alloc (by simp;omega) _⟩
theorem ZE(T N:Int)(ra:Option Addr)(rl rc:Nat)(da:Option Addr)(L dc:Nat)(w:World)(hL:L<=400)
 (call:Calls Tryz.prog 85 #[.pointer (some ⟨w.heap.size+1,0,none⟩),.int .i64 0] (laid w T N (.slice ra rl rc) (.slice da L dc)) fun e w'=>e= .panicked vK/\Weak w w.heap.size (w.heap.size+1) w'):
 Calls Tryz.prog 64 #[.agg #[.int .i64 T,.int .i64 N,.slice ra rl rc],.slice da L dc] w fun e w'=>
  e= .returned (.tuple #[xh,.bool false])/\Below w.heap.size w w':=by
 unfold xh;unfold laid at call;have Rc:∀(fn:Fn) (first cap:Array Value) (w:World),(Instr.makeFunc fn first cap).run Tryz.prog w= .ok (.func fn first cap) w:=fun _ _ _ _=>rfl
 go_enter_defers Tryz.func64,Tryz.ntmps64
 go_wp2_with (go_at_call 85;refine call.mono ?_;rintro e w2 ⟨rfl,hW⟩)
 refine leaves_cons (f:=84) (args:= #[.pointer (some ⟨w.heap.size+1,0,none⟩),.pointer (some ⟨w.heap.size+1+1,0,none⟩)]) (by simp) (by simp[go_sem]) ?_;obtain⟨u0,c0⟩:=hW.cs 0 (by omega);obtain⟨u1,c1⟩:=hW.cs 1 (by omega);obtain⟨u2,c2⟩:=hW.cs 2 (by omega);obtain⟨u3,c3⟩:=hW.cs 3 (by omega);obtain⟨u4,c4⟩:=hW.cs 4 (by omega);obtain⟨u5,c5⟩:=hW.cs 5 (by omega);obtain⟨u6,c6⟩:=hW.cs 6 (by omega);refine(Ra (w.heap.size+1) 9 _ [] w2 u0 u1 u2 u3 u4 u5 u6 _ c0 c1 c2 c3 c4 c5 c6 hW.fr hW.ok hW.qi).mono ?_;rintro e u' w'' ⟨rfl,rfl,rfl⟩;obtain⟨d0,d1,d2,d3,d4,d5,d6,d7⟩:=LV hW (.int .i64 0) (.int .i64 0) (.slice none 0 0) (.slice none 0 0) (.int .i64 0) (.slice none 0 0) (.slice none 0 0) (.bool false);have hB:=LU hW.below hW.le (.int .i64 0) (.int .i64 0) (.slice none 0 0) (.slice none 0 0) (.int .i64 0) (.slice none 0 0) (.slice none 0 0) (.bool false);simp[Leaves,settle,results,Tryz.results64,go_sem,d0,d1,d2,d3,d4,d5,d6,d7,hB]
theorem ZF(T N:Int)(ra:Option Addr)(rl rc:Nat)(da:Option Addr)(L dc:Nat)(w:World)(hL:L<=400)(st:St)(hp:st.pos<L)
 (call:Calls Tryz.prog 85 #[.pointer (some ⟨w.heap.size+1,0,none⟩),.int .i64 0] (laid w T N (.slice ra rl rc) (.slice da L dc)) fun e w'=>e= .returned (.tuple #[])/\∃yv sv,Inv w w.heap.size (w.heap.size+1) (.int .i64 T) (.int .i64 N) (.slice ra rl rc) (.slice da L dc) w' st yv sv):
 Calls Tryz.prog 64 #[.agg #[.int .i64 T,.int .i64 N,.slice ra rl rc],.slice da L dc] w fun e w'=>
  e= .returned (.tuple #[xh,.bool false])/\Below w.heap.size w w':=by
 unfold xh;unfold laid at call;have Rc:∀(fn:Fn) (first cap:Array Value) (w:World),(Instr.makeFunc fn first cap).run Tryz.prog w= .ok (.func fn first cap) w:=fun _ _ _ _=>rfl
 go_enter_defers Tryz.func64,Tryz.ntmps64
 go_wp2_with (first
  |(go_at_call 85;refine call.mono ?_;rintro e w2 ⟨rfl,yv,sv,hI⟩)
  |(go_at_call 86;refine(Zl _ _ _ _ _ _ hI.c3 hI.c4 hp).mono ?_;rintro e w3 ⟨rfl,m,rfl⟩))
 have hW:=hI.weak.drewN m;refine leaves_cons (f:=84) (args:= #[.pointer (some ⟨w.heap.size+1,0,none⟩),.pointer (some ⟨w.heap.size+1+1,0,none⟩)]) (by simp) (by simp[go_sem]) ?_;obtain⟨u0,c0⟩:=hW.cs 0 (by omega);obtain⟨u1,c1⟩:=hW.cs 1 (by omega);obtain⟨u2,c2⟩:=hW.cs 2 (by omega);obtain⟨u3,c3⟩:=hW.cs 3 (by omega);obtain⟨u4,c4⟩:=hW.cs 4 (by omega);obtain⟨u5,c5⟩:=hW.cs 5 (by omega);obtain⟨u6,c6⟩:=hW.cs 6 (by omega);refine(Ra (w.heap.size+1) 9 _ [] (w2.drewN m) u0 u1 u2 u3 u4 u5 u6 _ c0 c1 c2 c3 c4 c5 c6 hW.fr hW.ok hW.qi).mono ?_;rintro e u' w'' ⟨rfl,rfl,rfl⟩;obtain⟨d0,d1,d2,d3,d4,d5,d6,d7⟩:=LV hW (.int .i64 0) (.int .i64 0) (.slice none 0 0) (.slice none 0 0) (.int .i64 0) (.slice none 0 0) (.slice none 0 0) (.bool false);have hB:=LU hW.below hW.le (.int .i64 0) (.int .i64 0) (.slice none 0 0) (.slice none 0 0) (.int .i64 0) (.slice none 0 0) (.slice none 0 0) (.bool false);simp[Leaves,settle,results,Tryz.results64,go_sem,d0,d1,d2,d3,d4,d5,d6,d7,hB]
theorem ZG(T N:Int)(ra:Option Addr)(rl rc:Nat)(da:Option Addr)(L dc:Nat)(w:World)(hL:L<=400)(st:St)(hp:¬st.pos<L)
 (call:Calls Tryz.prog 85 #[.pointer (some ⟨w.heap.size+1,0,none⟩),.int .i64 0] (laid w T N (.slice ra rl rc) (.slice da L dc)) fun e w'=>e= .returned (.tuple #[])/\∃yv sv,Inv w w.heap.size (w.heap.size+1) (.int .i64 T) (.int .i64 N) (.slice ra rl rc) (.slice da L dc) w' st yv sv):
 Calls Tryz.prog 64 #[.agg #[.int .i64 T,.int .i64 N,.slice ra rl rc],.slice da L dc] w fun e w'=> ∃yv sv,
  e= .returned (.tuple #[.agg #[.int .i64 T,.int .i64 N,.slice ra rl rc,.slice da L dc,.int .i64 st.pos,yv,sv],.bool true])/\Below w.heap.size w w'/\
  w'.ownsRow (w.heap.size+3) 3 1 yv st.Y.length (st.Y.map (Value.int .i64))/\w'.ownsRow (w.heap.size+3) 178 3 sv st.S.length (jJ st.S):=by
 unfold laid at call;have Rc:∀(fn:Fn) (first cap:Array Value) (w:World),(Instr.makeFunc fn first cap).run Tryz.prog w= .ok (.func fn first cap) w:=fun _ _ _ _=>rfl
 go_enter_defers Tryz.func64,Tryz.ntmps64
 go_wp2_with (first
  |(go_at_call 85;refine call.mono ?_;rintro e w2 ⟨rfl,yv,sv,hI⟩;obtain⟨ya,yc,rfl⟩:=aY hI.o7;obtain⟨sa,sc,rfl⟩:=aY hI.mW;have c0:=hI.c0;have c1:=hI.c1;have c2:=hI.c2;have c3:=hI.c3;have c4:=hI.c4;have c5:=hI.c5;have c6:=hI.c6;have fr:=hI.fr;have ok:=hI.ok;have qi:=hI.qi)
  |(go_at_call 86;refine(Zk _ _ _ _ _ _ hI.c3 hI.c4 hp).mono ?_;rintro e w3 ⟨rfl,m,rfl⟩))
 have hW:=hI.weak.drewN m;refine leaves_cons (f:=84) (args:= #[.pointer (some ⟨w.heap.size+1,0,none⟩),.pointer (some ⟨w.heap.size+1+1,0,none⟩)]) (by simp) (by simp[go_sem]) ?_;refine(ZA (w.heap.size+1) _).mono ?_;rintro e u' w'' ⟨rfl,rfl,rfl⟩;obtain⟨d0,d1,d2,d3,d4,d5,d6,d7⟩:=LV hW (.int .i64 T) (.int .i64 N) (.slice ra rl rc) (.slice da L dc) (.int .i64 st.pos) (.slice ya st.Y.length yc) (.slice sa st.S.length sc) (.bool true);have hB:=LU hW.below hW.le (.int .i64 T) (.int .i64 N) (.slice ra rl rc) (.slice da L dc) (.int .i64 st.pos) (.slice ya st.Y.length yc) (.slice sa st.S.length sc) (.bool true);have hY:=Q9 (hI.drewN m).o7 (.int .i64 T) (.int .i64 N) (.slice ra rl rc) (.slice da L dc) (.int .i64 st.pos) (.slice ya st.Y.length yc) (.slice sa st.S.length sc) (.bool true);have hS:=Q9 (hI.drewN m).mW (.int .i64 T) (.int .i64 N) (.slice ra rl rc) (.slice da L dc) (.int .i64 st.pos) (.slice ya st.Y.length yc) (.slice sa st.S.length sc) (.bool true);refine⟨.tuple #[.agg #[.int .i64 T,.int .i64 N,.slice ra rl rc,.slice da L dc,.int .i64 st.pos,.slice ya st.Y.length yc,.slice sa st.S.length sc],.bool true],?_,_,_,rfl,hB,hY,hS⟩;change (results Tryz.f64 _).run Tryz.prog (nN (w2.drewN m) (w.heap.size+1) (.int .i64 T) (.int .i64 N) (.slice ra rl rc) (.slice da L dc) (.int .i64 st.pos) (.slice ya st.Y.length yc) (.slice sa st.S.length sc) (.bool true))=_;simp[results,Tryz.results64,go_sem,d0,d1,d2,d3,d4,d5,d6,d7];rfl
theorem Rf{D:List Int}{M:Nat}(hD:D.length<=400)(hM':M<=2147483648):lN D M { pos:=0,Y:=[],S:=[] } 0:=by
 refine⟨Nat.zero_le _,Nat.le_refl _,?_⟩;have h:D.length*M<=400*2147483648:=Nat.mul_le_mul hD hM';simp only[List.length_nil,Nat.sub_zero];omega
theorem ZH{w:World}{T N:Int}{rv dv:Value}{R:List Ru}{D:List Int}{M:Nat}(hr:aD w w.heap.size rv R)(hd:aH w w.heap.size dv D)
 (hM:∀q,(R.getD q (0,[])).2.length<=M) (hM':M<=2147483648) (h:jD R D=none):
 Calls Tryz.prog 64 #[.agg #[.int .i64 T,.int .i64 N,rv],dv] w fun e w'=>e= .returned (.tuple #[xh,.bool false])/\Below w.heap.size w w':=by
 obtain⟨ra,rc,bW⟩:=hr.1;obtain⟨da,dc,hdv⟩:=hd.1;unfold jD at h;split at h
 ·rename_i hl
  subst hdv;exact ZB T N rv da D.length dc w hl
 ·rename_i hl
  have call:=Q5 hr hd (by omega) hM hM' D.length 0 _ _ _ _ (Rb w T N rv dv) (by simp) (Rf (by omega) hM');split at h
  ·rename_i hn
   subst bW;subst hdv;refine ZE T N ra R.length rc da D.length dc w (by omega) (call.mono ?_);rintro e w' (⟨st,_,_,h2,_⟩|⟨_,rfl,hW⟩)
   ·rw[hn]at h2;cases h2
   ·exact⟨rfl,hW⟩
  ·rename_i st hn
   split at h
   ·rename_i hp
    subst bW;subst hdv;refine ZF T N ra R.length rc da D.length dc w (by omega) st hp (call.mono ?_);rintro e w' (⟨st2,yv,sv,h2,rfl,hI⟩|⟨h2,_⟩)
    ·rw[hn]at h2;cases h2;exact⟨rfl,yv,sv,hI⟩
    ·rw[hn]at h2;cases h2
   ·cases h
theorem ZI{w:World}{T N:Int}{rv dv:Value}{R:List Ru}{D:List Int}{M:Nat}{st:St}(hr:aD w w.heap.size rv R)(hd:aH w w.heap.size dv D)
 (hM:∀q,(R.getD q (0,[])).2.length<=M) (hM':M<=2147483648) (h:jD R D=some st):
 Calls Tryz.prog 64 #[.agg #[.int .i64 T,.int .i64 N,rv],dv] w fun e w'=> ∃yv sv,
  e= .returned (.tuple #[.agg #[.int .i64 T,.int .i64 N,rv,dv,.int .i64 st.pos,yv,sv],.bool true])/\Below w.heap.size w w'/\
  w'.ownsRow (w.heap.size+3) 3 1 yv st.Y.length (st.Y.map (Value.int .i64))/\w'.ownsRow (w.heap.size+3) 178 3 sv st.S.length (jJ st.S):=by
 obtain⟨ra,rc,bW⟩:=hr.1;obtain⟨da,dc,hdv⟩:=hd.1;unfold jD at h;split at h
 ·cases h
 ·rename_i hl
  have call:=Q5 hr hd (by omega) hM hM' D.length 0 _ _ _ _ (Rb w T N rv dv) (by simp) (Rf (by omega) hM');split at h
  ·cases h
  ·rename_i st' hn
   split at h
   ·cases h
   ·rename_i hp
    cases h;subst bW;subst hdv;refine ZG T N ra R.length rc da D.length dc w (by omega) st hp (call.mono ?_);rintro e w' (⟨st2,yv,sv,h2,rfl,hI⟩|⟨h2,_⟩)
    ·rw[hn]at h2;cases h2;exact⟨rfl,yv,sv,hI⟩
    ·rw[hn]at h2;cases h2
section
variable{w:World}{T N:Int}{rv dv:Value}{R:List Ru}{D:List Int}{M:Nat}{st:St}
theorem ZJ(hr:aD w w.heap.size rv R)(hd:aH w w.heap.size dv D)(hM:∀q,(R.getD q (0,[])).2.length<=M)(hM':M<=2147483648)(h:jD R D=none):
 Calls Tryz.prog 37 #[.agg #[.int .i64 T,.int .i64 N,rv],dv] w fun e w'=>e= .returned (.tuple #[.slice none 0 0,.bool false])/\Below w.heap.size w w':=by
 have call:=ZH (T:=T) (N:=N) (hr.boxed (.cells #[.int .i64 T,.int .i64 N,rv] 24)) (hd.boxed (.cells #[.int .i64 T,.int .i64 N,rv] 24)) hM hM' h;unfold xh at call;clear hr hd
 go_enter Tryz.func37,Tryz.ntmps37
 go_wp2_with (go_at_call 64;refine call.mono ?_;rintro e w1 ⟨rfl,hB⟩)
 go_ret2
 refine⟨rfl,?_⟩;have hz:=hB.size;simp only[World.size_alloc]at hz;exact(((Below.refl _ _).alloc (Nat.le_refl _) _).trans (hB.mono (by simp))).alloc (by omega) _
theorem ZK(hr:aD w w.heap.size rv R)(hd:aH w w.heap.size dv D)(hM:∀q,(R.getD q (0,[])).2.length<=M)(hM':M<=2147483648)(h:jD R D=some st):
 Calls Tryz.prog 37 #[.agg #[.int .i64 T,.int .i64 N,rv],dv] w fun e w'=> ∃yv,e= .returned (.tuple #[yv,.bool true])/\Below w.heap.size w w'/\
  w'.ownsRow w.heap.size 3 1 yv st.Y.length (st.Y.map (Value.int .i64)):=by
 have call:=ZI (T:=T) (N:=N) (hr.boxed (.cells #[.int .i64 T,.int .i64 N,rv] 24)) (hd.boxed (.cells #[.int .i64 T,.int .i64 N,rv] 24)) hM hM' h;obtain⟨ra,rc,rfl⟩:=hr.1;obtain⟨da,dc,rfl⟩:=hd.1;clear hr hd
 go_enter Tryz.func37,Tryz.ntmps37
 go_wp2_with (go_at_call 64;refine call.mono ?_;rintro e w1 ⟨yv,sv,rfl,hB,hY,hS⟩;obtain⟨ya,yc,rfl⟩:=aY hY;obtain⟨sa,sc,rfl⟩:=aY hS)
 go_ret2
 have hz:=hB.size;simp only[World.size_alloc]at hz hY;exact⟨_,rfl,(((Below.refl _ _).alloc (Nat.le_refl _) _).trans (hB.mono (by simp))).alloc (by omega) _,(jE hY (by omega)).alloc _⟩
end
section
variable{w:World}{T N:Int}{ra:Option Addr}{rc:Nat}{R:List Ru}{dv:Value}{D:List Int}
theorem LW{b:Nat}{u0 v0 v1:Value}(h0:w.cell? ⟨b,0,none⟩=some u0):((w.setCell ⟨b,0,none⟩ v0).setCell ⟨b,1,none⟩ v1).cell? ⟨b,0,none⟩=some v0:=by
 rw[dH (.inr (by simp))];exact World.cell?_setCell_same _ _ _ h0
theorem LX{b:Nat}{u1 v0 v1:Value}(h1:w.cell? ⟨b,1,none⟩=some u1):((w.setCell ⟨b,0,none⟩ v0).setCell ⟨b,1,none⟩ v1).cell? ⟨b,1,none⟩=some v1:=
 World.cell?_setCell_same _ _ _ ((dH (.inr (by simp))).trans h1)
theorem ZL(hr:aD w w.heap.size (.slice ra R.length rc) R)(hd:aH w w.heap.size dv D)(hM:∀q,(R.getD q (0,[])).2.length<=1000)(h:jD R D=none):
 Calls Tryz.prog 23 #[.agg #[.int .i64 T,.int .i64 N,.slice ra R.length rc],dv] w fun e w'=>e= .returned (.tuple #[.agg #[.int .i64 0,.slice none 0 0],.bool false])/\Below w.heap.size w w':=by
 obtain⟨da,dc,hdv⟩:=hd.1;subst hdv;obtain⟨W1,hW1⟩:∃W,(w.alloc (.cells #[.int .i64 T,.int .i64 N,.slice ra R.length rc] 24)).alloc (.cells #[.int .i64 0,.slice none 0 0] 73)=W:=⟨_,rfl⟩;have hB1:Below w.heap.size w W1:=by rw[<-hW1];exact((Below.refl _ _).alloc (Nat.le_refl _) _).alloc (by simp) _
 have hz1:W1.heap.size=w.heap.size+2:=by rw[<-hW1];simp
 have g0:W1.cell? ⟨w.heap.size,0,none⟩=some (.int .i64 T):=by rw[<-hW1];simp[go_sem]
 have g1:W1.cell? ⟨w.heap.size,1,none⟩=some (.int .i64 N):=by rw[<-hW1];simp[go_sem]
 have g2:W1.cell? ⟨w.heap.size,2,none⟩=some (.slice ra R.length rc):=by rw[<-hW1];simp[go_sem]
 have hr2:W1.heap[w.heap.size+1]?=some (.cells #[.int .i64 0,.slice none 0 0] 73 (0,0)):=by
  rw[<-hW1];have:=heap_alloc_new (w.alloc (.cells #[.int .i64 T,.int .i64 N,.slice ra R.length rc] 24)) (.cells #[.int .i64 0,.slice none 0 0] 73);simpa using this
 have yl:=ZJ (w:=W1) (T:=T) (N:=N) ((hr.below hB1).mono hB1.size) ((hd.below hB1).mono hB1.size) hM (by omega) h;have HB1:Hid (Below w.heap.size w W1/\W1.heap.size=w.heap.size+2/\W1.heap[w.heap.size+1]?=some (.cells #[.int .i64 0,.slice none 0 0] 73 (0,0))):=⟨hB1,hz1,hr2⟩;clear hr hd hM h hB1 hz1 hr2
 go_enter Tryz.func23,Tryz.ntmps23
 go_wp2_with
  (go_at_call 37;refine yl.mono ?_;rintro e w2 ⟨rfl,hB2⟩
   have hr3:=(hB2.block _ (Array.getElem?_eq_some_iff.1 HB1.out.2.2).1).trans HB1.out.2.2;have y0:w2.cell? ⟨w.heap.size+1,0,none⟩=some (.int .i64 0):=ah hr3 rfl;have y1:w2.cell? ⟨w.heap.size+1,1,none⟩=some (.slice none 0 0):=ah hr3 rfl;have eB:w2.frozen? ⟨w.heap.size+1,0,none⟩=false:=bE hr3;have eD:w2.frozen? ⟨w.heap.size+1,1,none⟩=false:=bE hr3;have HB2:Hid (Below w.heap.size w w2):=HB1.out.1.trans (hB2.mono HB1.out.1.size)
   clear yl hB2 hr3)
 have q0:=LW (v0:= .int .i64 0) (v1:= .slice none 0 0) y0;have q1:=LX (v0:= .int .i64 0) (v1:= .slice none 0 0) y1;refine bodyPost_ret (v:= .tuple #[.agg #[.int .i64 0,.slice none 0 0],.bool false]) (by simp[results,Tryz.results23,go_sem,q0,q1]) rfl ?_;exact⟨rfl,(HB2.out.setCell (by simp) _).setCell (by simp) _⟩
theorem ZO{st:St}{q:Nat}{ks:Fo}(hr:aD w w.heap.size (.slice ra R.length rc) R)(hd:aH w w.heap.size dv D)(hdc:∃da n dc,dv= .slice da n dc/\n<=dc)(hM:∀q,(R.getD q (0,[])).2.length<=1000)(h:jD R D=some st)(hok:okF R (.nd q ks .no) [0])(hfl:ai (.nd q ks .no)=D)(hDl:D.length<=400):
 Calls Tryz.prog 23 #[.agg #[.int .i64 T,.int .i64 N,.slice ra R.length rc],dv] w fun e w'=> ∃kv,e= .returned (.tuple #[.agg #[.int .i64 (q:Int),kv],.bool true])/\aG w' (fun b=>w.heap.size<=b) kv ks/\Below w.heap.size w w':=by
 obtain⟨da,dc,hdv⟩:=hd.1;subst hdv;obtain⟨W1,hW1⟩:∃W,(w.alloc (.cells #[.int .i64 T,.int .i64 N,.slice ra R.length rc] 24)).alloc (.cells #[.int .i64 0,.slice none 0 0] 73)=W:=⟨_,rfl⟩;have hB1:Below w.heap.size w W1:=by rw[<-hW1];exact((Below.refl _ _).alloc (Nat.le_refl _) _).alloc (by simp) _
 have hz1:W1.heap.size=w.heap.size+2:=by rw[<-hW1];simp
 have g0:W1.cell? ⟨w.heap.size,0,none⟩=some (.int .i64 T):=by rw[<-hW1];simp[go_sem]
 have g1:W1.cell? ⟨w.heap.size,1,none⟩=some (.int .i64 N):=by rw[<-hW1];simp[go_sem]
 have g2:W1.cell? ⟨w.heap.size,2,none⟩=some (.slice ra R.length rc):=by rw[<-hW1];simp[go_sem]
 have hr2:W1.heap[w.heap.size+1]?=some (.cells #[.int .i64 0,.slice none 0 0] 73 (0,0)):=by
  rw[<-hW1];have:=heap_alloc_new (w.alloc (.cells #[.int .i64 T,.int .i64 N,.slice ra R.length rc] 24)) (.cells #[.int .i64 0,.slice none 0 0] 73);simpa using this
 have yl:=ZK (w:=W1) (T:=T) (N:=N) ((hr.below hB1).mono hB1.size) ((hd.below hB1).mono hB1.size) hM (by omega) h;have HB1:Hid (Below w.heap.size w W1/\W1.heap.size=w.heap.size+2/\W1.heap[w.heap.size+1]?=some (.cells #[.int .i64 0,.slice none 0 0] 73 (0,0))):=⟨hB1,hz1,hr2⟩;have HG:Hid (W1.cell? ⟨w.heap.size,2,none⟩=some (.slice ra R.length rc)):=g2;obtain⟨_,_,e,hq,_,hk,_⟩:=hok;have LY:(q:Int)::(ai ks++[])=D:=by rw[<-hfl,ai,ai]
 have og:Hid (∀wq,Below w.heap.size w wq->Calls Tryz.prog 38 #[.slice ra R.length rc,.slice da D.length dc] wq fun e w'=> ∃kv rq,e= .returned (.tuple #[.agg #[.int .i64 (q:Int),kv],rq])/\aG w' (fun b=>wq.heap.size<=b) kv ks/\aH w' w.heap.size rq []/\(∃da n dc,rq= .slice da n dc/\n<=dc)/\Below wq.heap.size wq w'):=fun wq hq'=>by
  refine Za (fun q _=>hM q) ((ai ks).length+1) wq q ks [] (.slice da D.length dc) w.heap.size (by omega) hq hk ((hr.below hq').mono hq'.size) (by rw[LY];exact hd.below hq') hq'.size hdc ?_;have:D.length=(ai ks).length+1:=by rw[<-LY];simp
  omega
 clear hr hd hM h hB1 hz1 hr2 hfl LY hDl e hk hdc
 go_enter Tryz.func23,Tryz.ntmps23
 go_wp2_with
  (first
   |(go_at_call 37;refine yl.mono ?_;rintro e w2 ⟨yv,rfl,hB2,Rh⟩
     obtain⟨ya,yc,hyv⟩:=aY Rh;subst hyv;have v2:=(hB2.cell (World.block_lt_of_cell? _ _ HG.out)).trans HG.out;have hB2':Below w.heap.size w w2:=HB1.out.1.trans (hB2.mono HB1.out.1.size);have gr:=og.out w2 hB2';have HB2:Hid (Below w.heap.size w w2/\Below W1.heap.size W1 w2):=⟨hB2',hB2⟩
     clear yl hB2 Rh hB2' g0 g1 g2 hW1)
   |(go_at_call 38;refine gr.mono ?_;rintro e w3 ⟨kv,rq,rfl,hk3,_,ZP,hB3⟩
     have hk4:=hk3;obtain⟨ka,kc,hkv,_⟩:=hk4;obtain⟨n1,hn1⟩:∃n,aS ks=n:=⟨_,rfl⟩;rw[hn1]at hkv;subst hkv;obtain⟨a3,n3,c3,ZQ,_⟩:=ZP;subst ZQ;have hB4:Below w2.heap.size w2 (w3.alloc (.cells #[.int .i64 (q:Int),.slice ka n1 kc] 73)):=hB3.alloc hB3.size _;have hr4:=(hB4.block _ (by have:=HB1.out.2.1;have:=HB2.out.2.size;omega)).trans ((HB2.out.2.block _ (Array.getElem?_eq_some_iff.1 HB1.out.2.2).1).trans HB1.out.2.2);have y0:(w3.alloc (.cells #[.int .i64 (q:Int),.slice ka n1 kc] 73)).cell? ⟨w.heap.size+1,0,none⟩=some (.int .i64 0):=ah hr4 rfl;have y1:(w3.alloc (.cells #[.int .i64 (q:Int),.slice ka n1 kc] 73)).cell? ⟨w.heap.size+1,1,none⟩=some (.slice none 0 0):=ah hr4 rfl;have eB:(w3.alloc (.cells #[.int .i64 (q:Int),.slice ka n1 kc] 73)).frozen? ⟨w.heap.size+1,0,none⟩=false:=bE hr4;have eD:(w3.alloc (.cells #[.int .i64 (q:Int),.slice ka n1 kc] 73)).frozen? ⟨w.heap.size+1,1,none⟩=false:=bE hr4;have HF:Hid (aG (w3.alloc (.cells #[.int .i64 (q:Int),.slice ka n1 kc] 73)) (fun b=>w2.heap.size<=b) (.slice ka n1 kc) ks/\Below w.heap.size w (w3.alloc (.cells #[.int .i64 (q:Int),.slice ka n1 kc] 73))/\w.heap.size+2<=w2.heap.size):=⟨hk3.below ((Below.refl _ _).alloc (Nat.le_refl _) _),HB2.out.1.trans (hB4.mono HB2.out.1.size),by have:=HB1.out.2.1;have:=HB2.out.2.size;omega⟩
     clear gr hk3 hB3 hB4 hr4 v2 hn1))
 have q0:=LW (v0:= .int .i64 (q:Int)) (v1:= .slice ka n1 kc) y0;have q1:=LX (v0:= .int .i64 (q:Int)) (v1:= .slice ka n1 kc) y1;refine bodyPost_ret (v:= .tuple #[.agg #[.int .i64 (q:Int),.slice ka n1 kc],.bool true]) (by simp[results,Tryz.results23,go_sem,q0,q1]) rfl ?_;refine⟨_,rfl,HF.out.1.kept fun b hb _=> ?_,(HF.out.2.1.setCell (by simp) _).setCell (by simp) _⟩;have:=HF.out.2.2;refine⟨?_,by omega⟩;rw[Below.heap_setCell _ _ _ _ (by simp only;omega),Below.heap_setCell _ _ _ _ (by simp only;omega)]
end
structure Over(w:World)(ty:TypeId)(v:Value)(name:String)(fn:Nat)(P:Nat->Fo->Prop)(F:Nat->Fo->Nat×Fo):Prop where
 me:∀n w',(method (n+1) ty v name).run Tryz.prog w'= .ok (fn,v) w'
 enter:∀args w',(callFunc fn args).run Tryz.prog w'= .ok (.enter fn args) w'
 call:∀(w':World) (q:Nat) (ks:Fo) (kv:Value) (A:Nat->Prop),Below w.heap.size w w'->P q ks->aG w' A kv ks->(∀b,A b->b<w'.heap.size)->Calls Tryz.prog fn #[v,.agg #[.int .i64 (q:Int),kv]] w' fun e w''=> ∃kv',e= .returned (.agg #[.int .i64 ((F q ks).1:Int),kv'])/\aG w'' (fun b=>A b\/w'.heap.size<=b) kv' (F q ks).2/\Below w'.heap.size w' w''
section
variable{w:World}{T N:Int}{ra:Option Addr}{rc:Nat}{R:List Ru}{dv:Value}{D:List Int}
theorem ZR{ov:Value}(hr:aD w w.heap.size (.slice ra R.length rc) R)(hd:aH w w.heap.size dv D)(hM:∀q,(R.getD q (0,[])).2.length<=1000)(h:jD R D=none):
 Calls Tryz.prog 12 #[.agg #[.int .i64 T,.int .i64 N,.slice ra R.length rc],dv,ov] w fun e w'=>e= .returned (.tuple #[.slice none 0 0,.bool false])/\Below w.heap.size w w':=by
 obtain⟨da,dc,hdv⟩:=hd.1;subst hdv;obtain⟨W1,hW1⟩:∃W,w.alloc (.cells #[.int .i64 T,.int .i64 N,.slice ra R.length rc] 24)=W:=⟨_,rfl⟩;have hB1:Below w.heap.size w W1:=by rw[<-hW1];exact(Below.refl _ _).alloc (Nat.le_refl _) _
 have hx:=heap_alloc_new w (.cells #[.int .i64 T,.int .i64 N,.slice ra R.length rc] 24);rw[hW1]at hx;have g0:W1.cell? ⟨w.heap.size,0,none⟩=some (.int .i64 T):=ah hx rfl;have g1:W1.cell? ⟨w.heap.size,1,none⟩=some (.int .i64 N):=ah hx rfl;have g2:W1.cell? ⟨w.heap.size,2,none⟩=some (.slice ra R.length rc):=ah hx rfl;have tr:=ZL (w:=W1) (T:=T) (N:=N) ((hr.below hB1).mono hB1.size) ((hd.below hB1).mono hB1.size) hM h;have HB1:Hid (Below w.heap.size w W1):=hB1;clear hr hd hM h hB1 hx
 go_enter Tryz.func12,Tryz.ntmps12
 go_wp2_with
  (go_at_call 23;refine tr.mono ?_;rintro e w2 ⟨rfl,hB2⟩
   have HB2:Hid (Below w.heap.size w (w2.alloc (.cells #[.int .i64 0,.slice none 0 0] 73))):=(HB1.out.trans (hB2.mono HB1.out.size)).alloc (Nat.le_trans HB1.out.size hB2.size) _
   clear tr hB2)
 refine bodyPost_ret (v:= .tuple #[.slice none 0 0,.bool false]) (by simp[results,Tryz.results12,go_sem]) rfl ?_;exact⟨rfl,HB2.out⟩
theorem ZU{st:St}{q:Nat}{ks:Fo}{ty:TypeId}{v:Value}{name:String}{fn:Nat}{P:Nat->Fo->Prop}{F:Nat->Fo->Nat×Fo}(hO:Over w ty v name fn P F)(hP:P q ks)(hr:aD w w.heap.size (.slice ra R.length rc) R)(hd:aH w w.heap.size dv D)(hdc:∃da n dc,dv= .slice da n dc/\n<=dc)(hM:∀q,(R.getD q (0,[])).2.length<=1000)(h:jD R D=some st)(hok:okF R (.nd q ks .no) [0])(hfl:ai (.nd q ks .no)=D)(hDl:D.length<=400)(vL:(ai (F q ks).2).length<=2000):
 Calls Tryz.prog 12 #[.agg #[.int .i64 T,.int .i64 N,.slice ra R.length rc],dv,.func (.method name) #[.iface ty v] #[]] w fun e w'=>((((ai (F q ks).2).length+1<=400/\∃lv,e= .returned (.tuple #[lv,.bool true])/\aH w' w'.heap.size lv (((F q ks).1:Int)::ai (F q ks).2)/\(∃da n dc,lv= .slice da n dc/\n<=dc))\/400<(ai (F q ks).2).length+1/\e= .returned (.tuple #[.slice none 0 0,.bool false])))/\Below w.heap.size w w':=by
 obtain⟨da,dc,hdv⟩:=hd.1;subst hdv;obtain⟨W1,hW1⟩:∃W,w.alloc (.cells #[.int .i64 T,.int .i64 N,.slice ra R.length rc] 24)=W:=⟨_,rfl⟩;have hB1:Below w.heap.size w W1:=by rw[<-hW1];exact(Below.refl _ _).alloc (Nat.le_refl _) _
 have hx:=heap_alloc_new w (.cells #[.int .i64 T,.int .i64 N,.slice ra R.length rc] 24);rw[hW1]at hx;have g0:W1.cell? ⟨w.heap.size,0,none⟩=some (.int .i64 T):=ah hx rfl;have g1:W1.cell? ⟨w.heap.size,1,none⟩=some (.int .i64 N):=ah hx rfl;have g2:W1.cell? ⟨w.heap.size,2,none⟩=some (.slice ra R.length rc):=ah hx rfl;have tr:=ZO (w:=W1) (T:=T) (N:=N) ((hr.below hB1).mono hB1.size) ((hd.below hB1).mono hB1.size) hdc hM h hok hfl hDl;have HB1:Hid (Below w.heap.size w W1):=hB1;have HO:Hid (Over w ty v name fn P F/\P q ks):=⟨hO,hP⟩;have hme:=hO.me;have hfn:=hO.enter;obtain⟨⟨q2,jI⟩,hF2⟩:∃y,F q ks=y:=⟨_,rfl⟩;have Ri:Hid (F q ks=(q2,jI)):=hF2;rw[hF2]at vL⊢;simp only at vL⊢;obtain⟨m,hm⟩:∃m,(ai jI).length+1=m:=⟨_,rfl⟩;have hFm:m<=2001:=by omega
 have si:Hid ((ai jI).length+1=m):=hm;rw[hm];clear hr hd hM h hB1 hx hO hP hok hfl hDl hdc hF2 hm vL;rcases Nat.lt_or_ge 400 m with hbig|Rj
 ·have hb1:decide (400<m)=true:=decide_eq_true hbig
  have hb2:decide ((400:Int)<(m:Int))=true:=decide_eq_true (by omega);have HB:Hid (400<m):=hbig;clear hbig
  go_enter Tryz.func12,Tryz.ntmps12
  go_wp2_with
   (first
    |(go_at_call 23;refine tr.mono ?_;rintro e w2 ⟨kv,rfl,hk2,hB2⟩
      have hk3:=hk2;obtain⟨ka,kc,hkv,_⟩:=hk3;obtain⟨n1,hn1⟩:∃n,aS ks=n:=⟨_,rfl⟩;rw[hn1]at hkv;subst hkv;have hB3:Below w.heap.size w (w2.alloc (.cells #[.int .i64 (q:Int),.slice ka n1 kc] 73)):=(HB1.out.trans (hB2.mono HB1.out.size)).alloc (Nat.le_trans HB1.out.size hB2.size) _;have hk4:=hk2.below ((Below.refl _ _).alloc (Nat.le_refl _) (.cells #[.int .i64 (q:Int),.slice ka n1 kc] 73));have ca:=HO.out.1.call (w2.alloc (.cells #[.int .i64 (q:Int),.slice ka n1 kc] 73)) q ks (.slice ka n1 kc) (fun b=>b<(w2.alloc (.cells #[.int .i64 (q:Int),.slice ka n1 kc] 73)).heap.size) hB3 HO.out.2 (hk4.kept fun b _ hlt=>⟨rfl,hlt⟩) (fun b hb=>hb);rw[Ri.out]at ca;simp only at ca;have HB3:Hid (Below w.heap.size w (w2.alloc (.cells #[.int .i64 (q:Int),.slice ka n1 kc] 73))):=hB3
      clear tr hk2 hB2 hB3 hk4 hn1 g0 g1 g2 hW1)
    |(with_reducible refine Calls.mono ca ?_;rintro e w4 ⟨ZV,rfl,hk5,hB4⟩
      have LZ:=hk5;obtain⟨L6,L8,DK,_⟩:=LZ;obtain⟨n2,hn2⟩:∃n,aS jI=n:=⟨_,rfl⟩;rw[hn2]at DK;subst DK;have li:=QH ((ai jI).length+1) w4 q2 jI (.slice L6 n2 L8) (by omega) hk5 (by have:=si.out;omega);have bB:Hid (Below w.heap.size w w4):=HB3.out.trans (hB4.mono HB3.out.size)
      clear ca hk5 hB4 hn2)
    |(go_at_call 24;refine li.mono ?_;rintro e w5 ⟨lv,rfl,hlo,ay⟩
      obtain⟨la,lc,hlv⟩:=aY hlo;subst hlv;have HL:Hid (w5.ownsRow w4.heap.size 3 1 (.slice la ((ai jI).length+1) lc) ((ai jI).length+1) (jr ((q2:Int)::ai jI))):=hlo;have bV:Hid (Below w.heap.size w w5):=bB.out.trans (ay.mono bB.out.size);rw[si.out];rw[si.out]at HL
      clear li hlo ay))
  refine bodyPost_ret (v:= .tuple #[.slice none 0 0,.bool false]) (by simp[results,Tryz.results12,go_sem]) rfl ?_;exact⟨Or.inr ⟨HB.out,rfl⟩,bV.out⟩
 ·have hb1:decide (400<m)=false:=decide_eq_false (by omega)
  have hb2:decide ((400:Int)<(m:Int))=false:=decide_eq_false (by omega);have HB:Hid (m<=400):=Rj;clear Rj
  go_enter Tryz.func12,Tryz.ntmps12
  go_wp2_with
   (first
    |(go_at_call 23;refine tr.mono ?_;rintro e w2 ⟨kv,rfl,hk2,hB2⟩
      have hk3:=hk2;obtain⟨ka,kc,hkv,_⟩:=hk3;obtain⟨n1,hn1⟩:∃n,aS ks=n:=⟨_,rfl⟩;rw[hn1]at hkv;subst hkv;have hB3:Below w.heap.size w (w2.alloc (.cells #[.int .i64 (q:Int),.slice ka n1 kc] 73)):=(HB1.out.trans (hB2.mono HB1.out.size)).alloc (Nat.le_trans HB1.out.size hB2.size) _;have hk4:=hk2.below ((Below.refl _ _).alloc (Nat.le_refl _) (.cells #[.int .i64 (q:Int),.slice ka n1 kc] 73));have ca:=HO.out.1.call (w2.alloc (.cells #[.int .i64 (q:Int),.slice ka n1 kc] 73)) q ks (.slice ka n1 kc) (fun b=>b<(w2.alloc (.cells #[.int .i64 (q:Int),.slice ka n1 kc] 73)).heap.size) hB3 HO.out.2 (hk4.kept fun b _ hlt=>⟨rfl,hlt⟩) (fun b hb=>hb);rw[Ri.out]at ca;simp only at ca;have HB3:Hid (Below w.heap.size w (w2.alloc (.cells #[.int .i64 (q:Int),.slice ka n1 kc] 73))):=hB3
      clear tr hk2 hB2 hB3 hk4 hn1 g0 g1 g2 hW1)
    |(with_reducible refine Calls.mono ca ?_;rintro e w4 ⟨ZV,rfl,hk5,hB4⟩
      have LZ:=hk5;obtain⟨L6,L8,DK,_⟩:=LZ;obtain⟨n2,hn2⟩:∃n,aS jI=n:=⟨_,rfl⟩;rw[hn2]at DK;subst DK;have li:=QH ((ai jI).length+1) w4 q2 jI (.slice L6 n2 L8) (by omega) hk5 (by have:=si.out;omega);have bB:Hid (Below w.heap.size w w4):=HB3.out.trans (hB4.mono HB3.out.size)
      clear ca hk5 hB4 hn2)
    |(go_at_call 24;refine li.mono ?_;rintro e w5 ⟨lv,rfl,hlo,ay⟩
      obtain⟨la,lc,hlv⟩:=aY hlo;subst hlv;have HL:Hid (w5.ownsRow w4.heap.size 3 1 (.slice la ((ai jI).length+1) lc) ((ai jI).length+1) (jr ((q2:Int)::ai jI))):=hlo;have bV:Hid (Below w.heap.size w w5):=bB.out.trans (ay.mono bB.out.size);rw[si.out];rw[si.out]at HL
      clear li hlo ay))
  refine bodyPost_ret (v:= .tuple #[.slice la m lc,.bool true]) (by simp[results,Tryz.results12,go_sem]) rfl ?_;have hZ:((q2:Int)::ai jI).length=m:=by have:=si.out;simpa using this
  have hL:w5.ownsRow w4.heap.size 3 1 (.slice la m lc) ((q2:Int)::ai jI).length (jr ((q2:Int)::ai jI)):=by rw[hZ];exact HL.out
  refine⟨Or.inl ⟨HB.out,_,rfl,Li hL,la,m,lc,rfl,?_⟩,bV.out⟩;rcases HL.out.2 with⟨h0,h00⟩|⟨g,cap,cur,hg,_,_,hle,_⟩
  ·omega
  ·injection hg with _ _ hg3
   subst hg3;exact hle
end
end Go.Proofs.YtpkmpkphfflpjaaGreat

package tests

import (
	"bytes"
	"math"
	"slices"
	"strings"
	"testing"

	"loop.example/g00567/impl"
)

func TestConstants(t *testing.T) {
	if impl.MaxView != 9 || impl.MaxVal != 60 {
		t.Error(impl.MaxView, impl.MaxVal)
	}
	kinds := []int{impl.MsPropose, impl.MsVote, impl.MsReady, impl.MsReport, impl.MsDone}
	if !slices.Equal(kinds, []int{0, 1, 2, 3, 4}) {
		t.Error(kinds)
	}
}

func TestValOk(t *testing.T) {
	for _, v := range []int{math.MinInt, -1, 0, 61, 257, math.MaxInt} {
		if impl.ValOk(v) {
			t.Error(v, "is not a value")
		}
	}
	for v := 1; v <= 60; v++ {
		if !impl.ValOk(v) {
			t.Error(v, "is a value")
		}
	}
}

func TestVotesOk(t *testing.T) {
	all := votes(0, 1, 1, 60, 2, 3, 3, 4, 4, 5, 5, 6, 6, 7, 7, 8, 8, 9, 9, 10)
	for _, c := range []struct {
		l     []impl.Vote
		below int
		want  bool
	}{
		{nil, 0, true},
		{nil, -1, true},
		{nil, math.MinInt, true},
		{[]impl.Vote{}, 10, true},
		{votes(0, 1), 1, true},
		{votes(0, 60), 1, true},
		{votes(0, 1), 0, false},
		{votes(0, 1), -1, false},
		{votes(0, 0), 1, false},
		{votes(0, 61), 1, false},
		{votes(-1, 1), 1, false},
		{votes(2, 5), 3, true},
		{votes(3, 5), 3, false},
		{votes(9, 5), 10, true},
		{votes(9, 5), math.MaxInt, true},
		{votes(10, 5), 11, false},
		{votes(10, 5), math.MaxInt, false},
		{all, 10, true},
		{all, 9, false},
		{votes(0, 1, 1, 1), 2, true},
		{votes(0, 1, 2, 1), 3, true},
		{votes(1, 1, 0, 1), 2, false},
		{votes(1, 1, 1, 1), 2, false},
		{votes(1, 1, 1, 2), 2, false},
		{votes(0, 1, 2, 2, 1, 3), 3, false},
		{votes(0, 1, 1, 61), 2, false},
		{votes(0, 1, 2, 1), 2, false},
	} {
		if got := impl.VotesOk(c.l, c.below); got != c.want {
			t.Errorf("VotesOk(%v, %d) is %v", c.l, c.below, got)
		}
	}
}

func TestMsgOk(t *testing.T) {
	for _, m := range validMsgs() {
		if !impl.MsgOk(m) {
			t.Error(m, "is valid")
		}
	}
	for name, m := range invalidMsgs() {
		if impl.MsgOk(m) {
			t.Error(name, m)
		}
	}
	for _, view := range []int{math.MinInt, -1, 10, 256, math.MaxInt} {
		for _, kind := range []int{impl.MsPropose, impl.MsVote, impl.MsReady, impl.MsDone} {
			if impl.MsgOk(plain(kind, view, 7)) {
				t.Error(kind, view)
			}
		}
		if impl.MsgOk(report(view, impl.Vote{})) {
			t.Error("report", view)
		}
	}
	if !impl.MsgOk(impl.Msg{Kind: impl.MsVote, Val: 1, Votes: []impl.Vote{}}) {
		t.Error("an empty list of votes is no list")
	}
}

func TestEdgesOfReports(t *testing.T) {
	for view := 1; view <= 9; view++ {
		last, same := impl.Vote{View: view - 1, Val: 60}, impl.Vote{View: view, Val: 60}
		for _, m := range []impl.Msg{report(view, impl.Vote{}), report(view, last), report(view, impl.Vote{}, last), report(view, last, last)} {
			if !impl.MsgOk(m) {
				t.Error(m, "is valid")
			}
		}
		for _, m := range []impl.Msg{report(view, same), report(view, impl.Vote{}, same), report(view, last, same)} {
			if impl.MsgOk(m) {
				t.Error(m, "is not valid")
			}
		}
	}
}

// encoded lays the bytes out as the document says, with nothing checked.
func encoded(m impl.Msg) []byte {
	var b bytes.Buffer
	for _, n := range []int{m.Kind, m.View, m.Val, m.Lock.View, m.Lock.Val, len(m.Votes)} {
		b.WriteByte(byte(n))
	}
	for _, v := range m.Votes {
		b.Write([]byte{byte(v.View), byte(v.Val)})
	}
	return b.Bytes()
}

func TestEveryMessageThereAndBack(t *testing.T) {
	for _, m := range validMsgs() {
		b, ok := impl.MsgBytes(m)
		if !ok || !bytes.Equal(b, encoded(m)) {
			t.Fatalf("MsgBytes(%v) is %x %v", m, b, ok)
		}
		got, ok := impl.MsgRead(b)
		wantMsg(t, got, ok, m)
	}
}

func TestMsgBytesExamples(t *testing.T) {
	for _, c := range []struct {
		m    impl.Msg
		want string
	}{
		{exampleReport(), "\x03\x03\x00\x01\x05\x02\x00\x02\x01\x05"},
		{plain(impl.MsPropose, 0, 1), "\x00\x00\x01\x00\x00\x00"},
		{plain(impl.MsVote, 9, 60), "\x01\x09\x3c\x00\x00\x00"},
		{plain(impl.MsReady, 4, 17), "\x02\x04\x11\x00\x00\x00"},
		{plain(impl.MsDone, 0, 60), "\x04\x00\x3c\x00\x00\x00"},
		{report(1, impl.Vote{}), "\x03\x01\x00\x00\x00\x00"},
		{report(9, impl.Vote{View: 0, Val: 1}, votes(8, 60)...), "\x03\x09\x00\x00\x01\x01\x08\x3c"},
	} {
		b, ok := impl.MsgBytes(c.m)
		if !ok || string(b) != c.want {
			t.Errorf("MsgBytes(%v) is %x %v", c.m, b, ok)
		}
		m, ok := impl.MsgRead([]byte(c.want))
		wantMsg(t, m, ok, c.m)
	}
}

func TestMsgBytesOfInvalidMessages(t *testing.T) {
	for name, m := range invalidMsgs() {
		if b, ok := impl.MsgBytes(m); ok || len(b) != 0 {
			t.Error(name, b, ok)
		}
	}
}

func TestMsgReadRefuses(t *testing.T) {
	for name, b := range map[string]string{
		"nothing":                     "",
		"one byte":                    "\x00",
		"no number of votes":          "\x01\x01\x07\x00\x00",
		"a byte behind a vote":        "\x01\x01\x07\x00\x00\x00\x00",
		"kind 5":                      "\x05\x00\x07\x00\x00\x00",
		"kind 255":                    "\xff\x00\x07\x00\x00\x00",
		"view 10":                     "\x01\x0a\x07\x00\x00\x00",
		"val 0":                       "\x01\x01\x00\x00\x00\x00",
		"val 61":                      "\x01\x01\x3d\x00\x00\x00",
		"a vote with a lock":          "\x01\x01\x07\x00\x05\x00",
		"a vote with a lock's view":   "\x01\x01\x07\x01\x00\x00",
		"a vote with votes":           "\x01\x01\x07\x00\x00\x01\x00\x07",
		"done of view 1":              "\x04\x01\x07\x00\x00\x00",
		"report of view 0":            "\x03\x00\x00\x00\x00\x00",
		"report with a val":           "\x03\x03\x01\x00\x00\x00",
		"lock on 0 in view 1":         "\x03\x03\x00\x01\x00\x00",
		"lock at the view":            "\x03\x03\x00\x03\x05\x00",
		"too few votes":               "\x03\x03\x00\x01\x05\x02\x00\x02",
		"half a vote":                 "\x03\x03\x00\x01\x05\x02\x00\x02\x01",
		"a vote too many":             "\x03\x03\x00\x01\x05\x01\x00\x02\x01\x05",
		"half a vote too many":        "\x03\x03\x00\x01\x05\x01\x00\x02\x01",
		"votes without a number":      "\x03\x03\x00\x01\x05\x00\x00\x02\x01\x05",
		"a number without votes":      "\x03\x03\x00\x01\x05\x02",
		"255 votes, two there":        "\x03\x03\x00\x01\x05\xff\x00\x02\x01\x05",
		"votes not ascending":         "\x03\x03\x00\x01\x05\x02\x01\x05\x00\x02",
		"two votes in one view":       "\x03\x03\x00\x01\x05\x02\x01\x05\x01\x02",
		"a vote at the view":          "\x03\x03\x00\x01\x05\x02\x00\x02\x03\x05",
		"a vote for 0":                "\x03\x03\x00\x01\x05\x02\x00\x02\x01\x00",
		"a vote for 61":               "\x03\x03\x00\x01\x05\x02\x00\x02\x01\x3d",
		"255 votes, all there":        "\x03\x09\x00\x00\x00\xff" + strings.Repeat("\x00\x01", 255),
		"a vote and a million zeroes": "\x01\x01\x07\x00\x00\x00" + strings.Repeat("\x00", 1<<20),
	} {
		m, ok := impl.MsgRead([]byte(b))
		if ok || !zeroMsg(m) {
			t.Error(name, m, ok)
		}
	}
	m, ok := impl.MsgRead(nil)
	wantNoMsg(t, m, ok)
}

// nearBytes calls check with b shortened, lengthened and with each byte changed.
func nearBytes(b []byte, check func([]byte)) {
	for i := range b {
		check(slices.Clone(b[:i]))
		for n := range 256 {
			c := slices.Clone(b)
			c[i] = byte(n)
			check(c)
		}
	}
	for n := range 256 {
		check(append(slices.Clone(b), byte(n)))
		check(append(slices.Clone(b), byte(n), 1))
	}
}

func TestAcceptedBytesAreTheEncoding(t *testing.T) {
	accepted := 0
	check := func(b []byte) {
		m, ok := impl.MsgRead(b)
		if !ok {
			if !zeroMsg(m) {
				t.Errorf("MsgRead(%x) is %v and false", b, m)
			}
			return
		}
		accepted++
		again, fine := impl.MsgBytes(m)
		if !impl.MsgOk(m) || !fine || !bytes.Equal(again, b) {
			t.Errorf("MsgRead(%x) is %v, which is encoded as %x", b, m, again)
		}
		for i := 1; i < len(m.Votes); i++ {
			if m.Votes[i].View <= m.Votes[i-1].View {
				t.Errorf("MsgRead(%x) has two votes in a view: %v", b, m)
			}
		}
	}
	for _, m := range []impl.Msg{plain(impl.MsPropose, 0, 1), plain(impl.MsVote, 9, 60), plain(impl.MsReady, 5, 30), plain(impl.MsDone, 0, 7), report(1, impl.Vote{}), exampleReport(), report(9, impl.Vote{View: 8, Val: 60}, votes(0, 1, 4, 2, 8, 60)...)} {
		nearBytes(encoded(m), check)
	}
	if accepted == 0 {
		t.Error("nothing was accepted")
	}
}

func TestMsgCmp(t *testing.T) {
	l := append(reportMsgs()[:60], report(9, impl.Vote{}), exampleReport())
	for i, m := range plainMsgs() {
		if i%31 == 0 {
			l = append(l, m)
		}
	}
	for _, a := range l {
		for _, b := range l {
			if got, want := impl.MsgCmp(a, b), bytes.Compare(encoded(a), encoded(b)); got != want {
				t.Fatalf("MsgCmp(%v, %v) is %d, want %d", a, b, got, want)
			}
		}
	}
}

func TestMsgCmpByHand(t *testing.T) {
	for _, c := range []struct{ less, more impl.Msg }{
		{plain(impl.MsPropose, 9, 60), plain(impl.MsVote, 0, 1)},
		{plain(impl.MsVote, 1, 60), plain(impl.MsVote, 2, 1)},
		{plain(impl.MsVote, 1, 9), plain(impl.MsVote, 1, 10)},
		{plain(impl.MsReady, 9, 60), report(1, impl.Vote{})},
		{report(9, impl.Vote{View: 8, Val: 60}), plain(impl.MsDone, 0, 1)},
		{report(3, impl.Vote{View: 0, Val: 9}), report(3, impl.Vote{View: 1, Val: 5})},
		{report(3, impl.Vote{}, votes(2, 60)...), report(3, impl.Vote{}, votes(0, 1, 1, 1)...)},
		{report(3, impl.Vote{}, votes(0, 60)...), report(3, impl.Vote{}, votes(1, 1)...)},
		{report(3, impl.Vote{}, votes(0, 1)...), report(3, impl.Vote{}, votes(0, 2)...)},
	} {
		if impl.MsgCmp(c.less, c.more) != -1 || impl.MsgCmp(c.more, c.less) != 1 || impl.MsgCmp(c.less, c.less) != 0 {
			t.Error(c)
		}
	}
	if impl.MsgCmp(plain(impl.MsVote, 1, 7), impl.Msg{Kind: impl.MsVote, View: 1, Val: 7, Votes: []impl.Vote{}}) != 0 {
		t.Error("an empty list of votes is no list")
	}
}

func TestMsgCmpOfInvalidMessages(t *testing.T) {
	good := []impl.Msg{plain(impl.MsPropose, 0, 1), exampleReport(), plain(impl.MsDone, 0, 60)}
	for name, m := range invalidMsgs() {
		for _, g := range good {
			if impl.MsgCmp(m, g) != 0 || impl.MsgCmp(g, m) != 0 || impl.MsgCmp(m, m) != 0 {
				t.Error(name, g)
			}
		}
	}
}

func TestMsgText(t *testing.T) {
	for _, c := range []struct {
		m    impl.Msg
		want string
	}{
		{exampleReport(), "report 3 bound 1:5 0:2 1:5"},
		{plain(impl.MsPropose, 0, 60), "propose 0 60"},
		{plain(impl.MsVote, 1, 7), "vote 1 7"},
		{plain(impl.MsReady, 9, 1), "ready 9 1"},
		{plain(impl.MsDone, 0, 4), "done 4"},
		{report(1, impl.Vote{}), "report 1"},
		{report(2, impl.Vote{View: 0, Val: 10}), "report 2 bound 0:10"},
		{report(9, impl.Vote{}, votes(0, 60, 8, 1)...), "report 9 0:60 8:1"},
	} {
		if got := string(impl.MsgText(c.m)); got != c.want {
			t.Errorf("MsgText(%v) is %q, want %q", c.m, got, c.want)
		}
	}
	for name, m := range invalidMsgs() {
		if got := impl.MsgText(m); got != nil {
			t.Errorf("%s: %q", name, got)
		}
	}
}

func TestBare(t *testing.T) {
	for _, want := range plainMsgs() {
		m, ok := impl.Bare(want.Kind, want.View, want.Val)
		wantMsg(t, m, ok, want)
	}
	for _, c := range [][3]int{
		{-1, 0, 1}, {5, 0, 1}, {math.MaxInt, 0, 1}, {math.MinInt, 0, 1},
		{impl.MsReport, 1, 0}, {impl.MsReport, 3, 0}, {impl.MsReport, 3, 5}, {impl.MsReport, 0, 0},
		{impl.MsPropose, -1, 1}, {impl.MsPropose, 10, 1}, {impl.MsPropose, 0, 0}, {impl.MsPropose, 0, 61},
		{impl.MsVote, -1, 1}, {impl.MsVote, 10, 1}, {impl.MsVote, 9, 0}, {impl.MsVote, 9, 61},
		{impl.MsReady, math.MinInt, 1}, {impl.MsReady, math.MaxInt, 1}, {impl.MsReady, 0, -1}, {impl.MsReady, 0, 257},
		{impl.MsDone, 1, 4}, {impl.MsDone, 9, 4}, {impl.MsDone, -1, 4}, {impl.MsDone, 0, 0}, {impl.MsDone, 0, 61},
	} {
		m, ok := impl.Bare(c[0], c[1], c[2])
		wantNoMsg(t, m, ok)
	}
}

func TestVoteIn(t *testing.T) {
	for _, m := range validMsgs() {
		for view := -1; view <= 10; view++ {
			val, found := 0, false
			for _, v := range m.Votes {
				if v.View == view {
					val, found = v.Val, true
				}
			}
			if got, ok := impl.VoteIn(m, view); got != val || ok != found {
				t.Fatalf("VoteIn(%v, %d) is %d %v", m, view, got, ok)
			}
		}
	}
	for name, m := range invalidMsgs() {
		for _, view := range []int{math.MinInt, -1, 0, 1, 2, 3, 9, math.MaxInt} {
			if got, ok := impl.VoteIn(m, view); got != 0 || ok {
				t.Error(name, view, got, ok)
			}
		}
	}
}

func TestBoundTo(t *testing.T) {
	for _, m := range validMsgs() {
		if got, ok := impl.BoundTo(m); got != m.Lock || ok != (m.Lock.Val != 0) {
			t.Fatalf("BoundTo(%v) is %v %v", m, got, ok)
		}
	}
	if got, ok := impl.BoundTo(report(2, impl.Vote{View: 0, Val: 3})); got != (impl.Vote{View: 0, Val: 3}) || !ok {
		t.Error("a lock in view 0 is a lock", got, ok)
	}
	for name, m := range invalidMsgs() {
		if got, ok := impl.BoundTo(m); got != (impl.Vote{}) || ok {
			t.Error(name, got, ok)
		}
	}
}

func TestWithVote(t *testing.T) {
	lock := impl.Vote{View: 1, Val: 5}
	for _, c := range []struct {
		before, after []impl.Vote
		v             impl.Vote
	}{
		{nil, votes(0, 1), impl.Vote{View: 0, Val: 1}},
		{nil, votes(8, 60), impl.Vote{View: 8, Val: 60}},
		{votes(3, 3, 5, 5), votes(0, 9, 3, 3, 5, 5), impl.Vote{View: 0, Val: 9}},
		{votes(3, 3, 5, 5), votes(3, 3, 4, 9, 5, 5), impl.Vote{View: 4, Val: 9}},
		{votes(3, 3, 5, 5), votes(3, 3, 5, 5, 6, 9), impl.Vote{View: 6, Val: 9}},
		{votes(0, 1, 1, 1, 2, 1, 3, 1, 5, 1, 6, 1, 7, 1, 8, 1), votes(0, 1, 1, 1, 2, 1, 3, 1, 4, 2, 5, 1, 6, 1, 7, 1, 8, 1), impl.Vote{View: 4, Val: 2}},
	} {
		m, ok := impl.WithVote(report(9, lock, c.before...), c.v)
		wantMsg(t, m, ok, report(9, lock, c.after...))
	}
}

func TestInsertedVoteIsReturned(t *testing.T) {
	for _, m := range reportMsgs() {
		for view := -1; view <= 10; view++ {
			v := impl.Vote{View: view, Val: 42}
			_, taken := impl.VoteIn(m, view)
			got, ok := impl.WithVote(m, v)
			if want := 0 <= view && view < m.View && !taken; ok != want {
				t.Fatalf("WithVote(%v, %v) is %v", m, v, ok)
			}
			if !ok {
				wantNoMsg(t, got, ok)
				continue
			}
			val, found := impl.VoteIn(got, view)
			if val != 42 || !found || !impl.MsgOk(got) || len(got.Votes) != len(m.Votes)+1 || got.Lock != m.Lock || got.View != m.View {
				t.Fatalf("WithVote(%v, %v) is %v", m, v, got)
			}
			for _, u := range m.Votes {
				if val, found = impl.VoteIn(got, u.View); val != u.Val || !found {
					t.Fatalf("WithVote(%v, %v) is %v", m, v, got)
				}
			}
		}
	}
}

func TestWithVoteRefuses(t *testing.T) {
	base := report(3, impl.Vote{View: 1, Val: 5}, votes(1, 5)...)
	for _, v := range []impl.Vote{{View: 1, Val: 5}, {View: 1, Val: 6}, {View: -1, Val: 5}, {View: 3, Val: 5}, {View: 4, Val: 5}, {View: 10, Val: 5}, {View: 0, Val: 0}, {View: 0, Val: 61}, {View: 0, Val: -1}, {View: 2, Val: 0}, {View: 2, Val: 61}, {View: math.MinInt, Val: 5}, {View: math.MaxInt, Val: 5}, {}} {
		m, ok := impl.WithVote(base, v)
		wantNoMsg(t, m, ok)
	}
	for _, other := range []impl.Msg{plain(impl.MsPropose, 3, 5), plain(impl.MsVote, 3, 5), plain(impl.MsReady, 3, 5), plain(impl.MsDone, 0, 5)} {
		m, ok := impl.WithVote(other, impl.Vote{View: 0, Val: 5})
		wantNoMsg(t, m, ok)
	}
	for name, bad := range invalidMsgs() {
		for view := range 4 {
			m, ok := impl.WithVote(bad, impl.Vote{View: view, Val: 5})
			if ok || !zeroMsg(m) {
				t.Error(name, view, m, ok)
			}
		}
	}
}

func TestMessagesAreNotModified(t *testing.T) {
	ms := append(reportMsgs(), exampleReport())
	for _, m := range invalidMsgs() {
		ms = append(ms, m)
	}
	for _, m := range ms {
		l, all := spare(m.Votes)
		before := slices.Clone(all)
		m.Votes = l
		impl.VotesOk(l, 3)
		impl.MsgOk(m)
		impl.MsgBytes(m)
		impl.MsgCmp(m, m)
		impl.MsgText(m)
		impl.BoundTo(m)
		for view := -1; view <= 10; view++ {
			impl.VoteIn(m, view)
			impl.WithVote(m, impl.Vote{View: view, Val: 9})
		}
		if !slices.Equal(all, before) {
			t.Fatalf("%v became %v", before, all)
		}
	}
	b := encoded(exampleReport())
	all := append(slices.Clone(b), 9, 9, 9, 9)
	impl.MsgRead(all[:len(b)])
	if !bytes.Equal(all, append(slices.Clone(b), 9, 9, 9, 9)) {
		t.Error(all)
	}
}

func TestElementsBeyondTheLengthAreNotRead(t *testing.T) {
	all := encoded(exampleReport())
	if m, ok := impl.MsgRead(all[:9]); ok || !zeroMsg(m) {
		t.Error(m, ok)
	}
	l := votes(0, 1, 1, 5)
	m := report(3, impl.Vote{}, l[:1]...)
	if b, ok := impl.MsgBytes(m); !ok || !bytes.Equal(b, encoded(m)) {
		t.Error(b, ok)
	}
	if val, ok := impl.VoteIn(m, 1); val != 0 || ok {
		t.Error(val, ok)
	}
}

func TestWithVoteSharesNoMemory(t *testing.T) {
	for _, before := range [][]impl.Vote{nil, votes(1, 5), votes(0, 2, 1, 5), votes(3, 5)} {
		m := report(4, impl.Vote{View: 1, Val: 5})
		l, all := spare(before)
		m.Votes = l
		kept := slices.Clone(all)
		got, ok := impl.WithVote(m, impl.Vote{View: 2, Val: 9})
		if !ok {
			t.Fatal(m)
		}
		for i := range got.Votes {
			got.Votes[i] = impl.Vote{View: 88, Val: 88}
		}
		if !slices.Equal(all, kept) {
			t.Errorf("%v became %v", kept, all)
		}
	}
}

func TestEncodingsShareNoMemory(t *testing.T) {
	m := exampleReport()
	b, _ := impl.MsgBytes(m)
	text := impl.MsgText(m)
	first, _ := impl.MsgRead(b)
	second, _ := impl.MsgRead(b)
	clear(b)
	clear(text)
	wantMsg(t, first, true, exampleReport())
	clear(first.Votes)
	wantMsg(t, second, true, exampleReport())
	b, ok := impl.MsgBytes(m)
	if !ok || !bytes.Equal(b, encoded(exampleReport())) || string(impl.MsgText(m)) != "report 3 bound 1:5 0:2 1:5" {
		t.Error("a later result shares memory with an earlier one", b)
	}
}

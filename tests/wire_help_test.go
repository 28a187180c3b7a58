package tests

import (
	"math"
	"slices"
	"strconv"
	"testing"

	"loop.example/g00567/impl"
)

// exampleReport is the report of the document's examples.
func exampleReport() impl.Msg {
	return report(3, impl.Vote{View: 1, Val: 5}, impl.Vote{View: 0, Val: 2}, impl.Vote{View: 1, Val: 5})
}

func report(view int, lock impl.Vote, votes ...impl.Vote) impl.Msg {
	return impl.Msg{Kind: impl.MsReport, View: view, Lock: lock, Votes: votes}
}

func plain(kind, view, val int) impl.Msg {
	return impl.Msg{Kind: kind, View: view, Val: val}
}

func votes(pairs ...int) []impl.Vote {
	var l []impl.Vote
	for i := 0; i < len(pairs); i += 2 {
		l = append(l, impl.Vote{View: pairs[i], Val: pairs[i+1]})
	}
	return l
}

func sameMsg(a, b impl.Msg) bool {
	return a.Kind == b.Kind && a.View == b.View && a.Val == b.Val && a.Lock == b.Lock && slices.Equal(a.Votes, b.Votes)
}

func zeroMsg(m impl.Msg) bool { return sameMsg(m, impl.Msg{}) }

// plainMsgs returns every valid message that is not a report.
func plainMsgs() []impl.Msg {
	var l []impl.Msg
	for val := 1; val <= 60; val++ {
		for view := 0; view <= 9; view++ {
			l = append(l, plain(impl.MsPropose, view, val), plain(impl.MsVote, view, val), plain(impl.MsReady, view, val))
		}
		l = append(l, plain(impl.MsDone, 0, val))
	}
	return l
}

// reportMsgs returns, for each view, reports with every set of voted views and locks in every view.
func reportMsgs() []impl.Msg {
	var l []impl.Msg
	for view := 1; view <= 9; view++ {
		for set := 0; set < 1<<view; set++ {
			var voted []impl.Vote
			for v := 0; v < view; v++ {
				if set>>v&1 == 1 {
					voted = append(voted, impl.Vote{View: v, Val: 1 + (set*7+v*59)%60})
				}
			}
			lock := impl.Vote{}
			if set%3 != 0 {
				lock = impl.Vote{View: set % view, Val: 1 + set%60}
			}
			l = append(l, report(view, lock, voted...))
		}
	}
	for _, val := range []int{1, 60} {
		for view := 1; view <= 9; view++ {
			for at := 0; at < view; at++ {
				l = append(l, report(view, impl.Vote{View: at, Val: val}, impl.Vote{View: at, Val: 61 - val}))
			}
		}
	}
	return l
}

func validMsgs() []impl.Msg { return append(plainMsgs(), reportMsgs()...) }

// invalidMsgs returns messages that are each wrong in one place, by what is wrong.
func invalidMsgs() map[string]impl.Msg {
	l := map[string]impl.Msg{
		"kind -1":                     plain(-1, 0, 1),
		"kind 5":                      plain(5, 0, 1),
		"kind 256":                    plain(256, 0, 1),
		"done of view 1":              plain(impl.MsDone, 1, 4),
		"done of view -1":             plain(impl.MsDone, -1, 4),
		"done of view 9":              plain(impl.MsDone, 9, 4),
		"report of view 0":            report(0, impl.Vote{}),
		"report of view -1":           report(-1, impl.Vote{}),
		"report of view 10":           report(10, impl.Vote{}),
		"report of view 256":          report(256, impl.Vote{}),
		"report with a val":           {Kind: impl.MsReport, View: 3, Val: 1},
		"report with val -1":          {Kind: impl.MsReport, View: 3, Val: -1},
		"report with val 256":         {Kind: impl.MsReport, View: 3, Val: 256},
		"lock at the view":            report(3, impl.Vote{View: 3, Val: 5}),
		"lock beyond the view":        report(3, impl.Vote{View: 4, Val: 5}),
		"lock in view -1":             report(3, impl.Vote{View: -1, Val: 5}),
		"lock in view 256":            report(3, impl.Vote{View: 256, Val: 5}),
		"lock on 0":                   report(3, impl.Vote{View: 1, Val: 0}),
		"lock on 61":                  report(3, impl.Vote{View: 1, Val: 61}),
		"lock on -1":                  report(3, impl.Vote{View: 0, Val: -1}),
		"lock on 257":                 report(3, impl.Vote{View: 1, Val: 257}),
		"vote at the view":            report(3, impl.Vote{}, impl.Vote{View: 3, Val: 5}),
		"vote beyond the view":        report(3, impl.Vote{}, impl.Vote{View: 9, Val: 5}),
		"vote in view -1":             report(3, impl.Vote{}, impl.Vote{View: -1, Val: 5}),
		"vote for 0":                  report(3, impl.Vote{}, impl.Vote{View: 0, Val: 0}),
		"vote for 61":                 report(3, impl.Vote{}, impl.Vote{View: 0, Val: 61}),
		"vote for -1":                 report(3, impl.Vote{}, impl.Vote{View: 0, Val: -1}),
		"second of two votes for 61":  report(3, impl.Vote{}, votes(0, 1, 1, 61)...),
		"two equal votes":             report(3, impl.Vote{}, votes(1, 5, 1, 5)...),
		"two votes in one view":       report(3, impl.Vote{}, votes(1, 5, 1, 6)...),
		"votes not ascending":         report(3, impl.Vote{}, votes(1, 5, 0, 2)...),
		"last two votes not in order": report(4, impl.Vote{}, votes(0, 5, 2, 2, 1, 1)...),
		"257 votes":                   report(9, impl.Vote{}, make([]impl.Vote, 257)...),
	}
	for kind, word := range map[int]string{impl.MsPropose: "propose", impl.MsVote: "vote", impl.MsReady: "ready"} {
		for _, n := range []int{math.MinInt, -1, 10, 256, math.MaxInt} {
			l[word+" of view "+strconv.Itoa(n)] = plain(kind, n, 7)
		}
	}
	for kind := impl.MsPropose; kind <= impl.MsDone; kind++ {
		if kind == impl.MsReport {
			continue
		}
		name := "kind " + strconv.Itoa(kind)
		l[name+" with val 0"] = plain(kind, 0, 0)
		l[name+" with val -1"] = plain(kind, 0, -1)
		l[name+" with val 61"] = plain(kind, 0, 61)
		l[name+" with val 257"] = plain(kind, 0, 257)
		l[name+" with a lock"] = impl.Msg{Kind: kind, Val: 7, Lock: impl.Vote{View: 0, Val: 5}}
		l[name+" with a lock's view"] = impl.Msg{Kind: kind, Val: 7, Lock: impl.Vote{View: 1}}
		l[name+" with a vote"] = impl.Msg{Kind: kind, Val: 7, Votes: votes(0, 5)}
		if kind != impl.MsDone {
			l[name+" with a lock below its view"] = impl.Msg{Kind: kind, View: 2, Val: 7, Lock: impl.Vote{View: 1, Val: 7}}
			l[name+" with a vote below its view"] = impl.Msg{Kind: kind, View: 2, Val: 7, Votes: votes(1, 7)}
		}
	}
	return l
}

// spare returns l with room behind it, and the whole of the memory.
func spare(l []impl.Vote) ([]impl.Vote, []impl.Vote) {
	all := make([]impl.Vote, len(l)+4)
	copy(all, l)
	for i := len(l); i < len(all); i++ {
		all[i] = impl.Vote{View: 77, Val: 78 + i}
	}
	return all[:len(l)], all
}

func wantMsg(t *testing.T, got impl.Msg, ok bool, want impl.Msg) {
	t.Helper()
	if !ok || !sameMsg(got, want) {
		t.Errorf("got %v %v, want %v", got, ok, want)
	}
}

func wantNoMsg(t *testing.T, got impl.Msg, ok bool) {
	t.Helper()
	if ok || !zeroMsg(got) {
		t.Errorf("got %v %v, want the zero value and false", got, ok)
	}
}

package tests

import (
	"math"
	"slices"
	"strconv"
	"strings"
	"testing"
	"unsafe"

	"loop.example/g00567/impl"
)

func proposing(view, val int) impl.Msg { return plain(impl.MsPropose, view, val) }

func voting(view, val int) impl.Msg { return plain(impl.MsVote, view, val) }

func readying(view, val int) impl.Msg { return plain(impl.MsReady, view, val) }

func deciding(val int) impl.Msg { return plain(impl.MsDone, 0, val) }

func reporting(view int) impl.Msg { return report(view, noLock) }

// idle is a replica in a view that has neither heard nor sent anything; its own value is 9.
func idle(n, id, view int) impl.Rep {
	return impl.Rep{N: n, Id: id, Own: 9, View: view, Left: 3 + view}
}

func heard(view int, l ...impl.Report) impl.Heard { return impl.Heard{View: view, L: l} }

// busy is a replica with something in every field, for which no action is possible.
func busy() impl.Rep {
	return impl.Rep{
		N: 4, Id: 1, Own: 9, View: 3, Left: 2,
		Voted:   votes(0, 5, 2, 7),
		Lock:    lockOn(2, 7),
		Props:   tally(0, 0, 5, 2, 2, 7, 0, 4, 8),
		Votes:   tally(0, 0, 5, 1, 0, 5, 0, 2, 7, 1, 2, 7, 2, 2, 7, 3, 3, 6, 3, 9, 60),
		Readies: tally(1, 2, 7, 3, 2, 7, 3, 8, 1),
		Dones:   tally(3, 0, 7),
		Heard: []impl.Heard{
			heard(2, reported(0, noLock, 0, 5), reported(1, noLock, 0, 5), reported(3, lockOn(1, 6), 1, 6)),
			heard(3, reported(1, lockOn(2, 7), 0, 5, 2, 7), reported(2, lockOn(2, 7), 2, 7)),
			heard(8, reported(3, lockOn(7, 60), 0, 1, 7, 60)),
		},
	}
}

func tallies(r *impl.Rep) []*impl.Tally {
	return []*impl.Tally{&r.Props, &r.Votes, &r.Readies, &r.Dones}
}

func sameRep(a, b impl.Rep) bool {
	for i, x := range tallies(&a) {
		if !sameTally(*x, *tallies(&b)[i]) {
			return false
		}
	}
	numbers := a.N == b.N && a.Id == b.Id && a.Own == b.Own && a.View == b.View && a.Left == b.Left && a.Lock == b.Lock && a.Done == b.Done
	return numbers && slices.Equal(a.Voted, b.Voted) && slices.EqualFunc(a.Heard, b.Heard, sameHeard)
}

func sameHeard(a, b impl.Heard) bool { return a.View == b.View && sameReports(a.L, b.L) }

func sameMsgs(a, b []impl.Msg) bool { return slices.EqualFunc(a, b, sameMsg) }

func zeroRep(r impl.Rep) bool { return sameRep(r, impl.Rep{}) }

func cloneRep(r impl.Rep) impl.Rep {
	r.Voted = slices.Clone(r.Voted)
	for _, x := range tallies(&r) {
		x.L = slices.Clone(x.L)
	}
	r.Heard = slices.Clone(r.Heard)
	for i := range r.Heard {
		r.Heard[i].L = cloneReports(r.Heard[i].L)
	}
	return r
}

// changed returns a copy of r with one change.
func changed(r impl.Rep, change func(*impl.Rep)) impl.Rep {
	r = cloneRep(r)
	change(&r)
	return r
}

// texts are the messages in order, as MsgText writes them.
func texts(l []impl.Msg) string {
	var out []string
	for _, m := range l {
		out = append(out, string(impl.MsgText(m)))
	}
	return strings.Join(out, ", ")
}

func wantRep(t *testing.T, got, want impl.Rep) {
	t.Helper()
	if !sameRep(got, want) {
		t.Fatalf("got  %v,\nwant %v", got, want)
	}
}

// A player takes a replica through a scenario.
type player struct {
	t *testing.T
	r impl.Rep
}

func play(t *testing.T, r impl.Rep) *player {
	t.Helper()
	if !impl.RepOk(r) {
		t.Fatal(r, "is not valid")
	}
	return &player{t, r}
}

// hears checks what the replica sends on a message: the texts of its messages, joined by commas.
func (p *player) hears(from int, m impl.Msg, want string) {
	p.t.Helper()
	p.r, want = p.after(want, func() (impl.Rep, []impl.Msg) { return impl.RepHear(p.r, from, m) })
	if want != "" {
		p.t.Fatalf("after %s of %d: %s", impl.MsgText(m), from, want)
	}
}

func (p *player) ticks(want string) {
	p.t.Helper()
	p.r, want = p.after(want, func() (impl.Rep, []impl.Msg) { return impl.RepTick(p.r) })
	if want != "" {
		p.t.Fatalf("after a tick: %s", want)
	}
}

// after returns the replica after a step, and what is wrong with it.
func (p *player) after(want string, step func() (impl.Rep, []impl.Msg)) (impl.Rep, string) {
	r, sent := step()
	if got := texts(sent); got != want {
		return r, "it sends " + strconv.Quote(got) + ", want " + strconv.Quote(want)
	}
	if wrong := wrongStep(p.r, r, sent); wrong != "" {
		return r, wrong
	}
	return r, ""
}

// wrongStep tells what promises 5 and 6 do not allow of a step from a to b, or nothing.
func wrongStep(a, b impl.Rep, sent []impl.Msg) string {
	switch {
	case !impl.RepOk(b):
		return "not valid"
	case a.N != b.N || a.Id != b.Id || a.Own != b.Own:
		return "another replica"
	case b.View < a.View:
		return "an earlier view"
	case len(b.Voted) < len(a.Voted) || !slices.Equal(b.Voted[:len(a.Voted)], a.Voted):
		return "its votes changed"
	case a.Done != 0 && b.Done != a.Done:
		return "its decision changed"
	case !heardAll(a, b):
		return "what it has heard has shrunk"
	}
	for _, m := range sent {
		if impl.TellOf(b, m) == contradicted(a, m) {
			return "sent and not recorded: " + string(impl.MsgText(m))
		}
		if m.Kind == impl.MsReport && (m.Lock != a.Lock || !slices.Equal(m.Votes, votesBelow(b, m.View))) {
			return "reports other votes than its own: " + string(impl.MsgText(m))
		}
	}
	return ""
}

// contradicted reports whether r holds another ballot of its own in the place of m, which no replica does that comes from RepNew.
func contradicted(r impl.Rep, m impl.Msg) bool {
	for kind, x := range map[int]impl.Tally{impl.MsPropose: r.Props, impl.MsVote: r.Votes, impl.MsReady: r.Readies, impl.MsDone: r.Dones} {
		for _, b := range x.L {
			if kind == m.Kind && b.From == r.Id && b.View == m.View && b.Val != m.Val {
				return true
			}
		}
	}
	return false
}

func heardAll(a, b impl.Rep) bool {
	for i, x := range tallies(&a) {
		for _, old := range x.L {
			if !slices.Contains(tallies(&b)[i].L, old) {
				return false
			}
		}
	}
	for _, h := range a.Heard {
		for _, old := range h.L {
			if !slices.ContainsFunc(reportsFor(b, h.View), func(r impl.Report) bool { return sameReport(r, old) }) {
				return false
			}
		}
	}
	return true
}

func reportsFor(r impl.Rep, view int) []impl.Report {
	for _, h := range r.Heard {
		if h.View == view {
			return h.L
		}
	}
	return nil
}

func votesBelow(r impl.Rep, view int) []impl.Vote {
	var l []impl.Vote
	for _, v := range r.Voted {
		if v.View < view {
			l = append(l, v)
		}
	}
	return l
}

// joinable is JoinView by its definition.
func joinable(r impl.Rep) int {
	for view := 9; view > r.View; view-- {
		in := 0
		for from := range r.N {
			if slices.ContainsFunc(r.Heard, func(h impl.Heard) bool {
				return h.View >= view && slices.ContainsFunc(h.L, func(x impl.Report) bool { return x.From == from })
			}) {
				in++
			}
		}
		if in >= weakOf(r.N) {
			return view
		}
	}
	return r.View
}

// invalidReps returns replicas that are each wrong in one field, by what is wrong.
func invalidReps() map[string]impl.Rep {
	all := map[string]impl.Rep{"nothing": {}}
	for name, base := range map[string]impl.Rep{"busy": busy(), "idle": idle(4, 1, 3)} {
		addWrongNumbers(all, name, base)
		addWrongVotes(all, name, base)
		addWrongTallies(all, name, base)
		addWrongHeard(all, name, base)
	}
	for _, view := range []int{math.MinInt, -2, -1, 10, 11, 256, math.MaxInt} {
		all["idle in view "+strconv.Itoa(view)] = changed(idle(4, 1, 0), func(r *impl.Rep) { r.View, r.Left = view, 1 })
	}
	return all
}

func addWrongNumbers(all map[string]impl.Rep, name string, base impl.Rep) {
	for field, wrong := range map[string][]int{
		"N":    otherSizes,
		"Id":   {math.MinInt, -4, -1, 4, 5, 7, 256 + 1, math.MaxInt},
		"Own":  {math.MinInt, -1, 0, 61, 62, 256 + 9, math.MaxInt},
		"View": {math.MinInt, -1, 10, 256 + 3, math.MaxInt},
		"Left": {math.MinInt, -1, 0, 7, 8, 256 + 2, math.MaxInt},
		"Done": {math.MinInt, -1, 61, 62, 256 + 7, math.MaxInt},
	} {
		for _, n := range wrong {
			all[name+" with "+field+" "+strconv.Itoa(n)] = changed(base, func(r *impl.Rep) {
				*map[string]*int{"N": &r.N, "Id": &r.Id, "Own": &r.Own, "View": &r.View, "Left": &r.Left, "Done": &r.Done}[field] = n
			})
		}
	}
}

func addWrongVotes(all map[string]impl.Rep, name string, base impl.Rep) {
	for what, l := range map[string][]impl.Vote{
		"in a later view": votes(0, 5, 4, 7), "in view -1": votes(-1, 5), "in view 10": votes(10, 5), "for 0": votes(0, 0), "for 61": votes(3, 61),
		"twice in a view": votes(1, 5, 1, 5), "in descending views": votes(2, 5, 1, 5), "a thousand times": make([]impl.Vote, 1000),
	} {
		all[name+" voted "+what] = changed(base, func(r *impl.Rep) { r.Voted = l })
	}
	for _, lock := range []impl.Vote{lockOn(4, 7), lockOn(9, 7), lockOn(-1, 7), lockOn(10, 7), lockOn(2, 0), lockOn(2, 61), lockOn(0, -1), lockOn(0, 61)} {
		all[name+" with lock "+strconv.Itoa(lock.View)+":"+strconv.Itoa(lock.Val)] = changed(base, func(r *impl.Rep) { r.Lock = lock })
	}
}

func addWrongTallies(all map[string]impl.Rep, name string, base impl.Rep) {
	wrong := map[string]impl.Tally{
		"a ballot of 4":          tally(0, 0, 5, 4, 0, 5),
		"a ballot of 6":          tally(6, 0, 5),
		"a repeated ballot":      tally(0, 0, 9, 0, 0, 9),
		"two values of a sender": tally(0, 0, 9, 3, 0, 9, 3, 0, 8),
		"senders out of order":   tally(1, 0, 9, 0, 0, 9),
		"views out of order":     tally(0, 1, 9, 1, 0, 9),
		"a million zero ballots": {L: make([]impl.Ballot, 1<<20)},
	}
	for what, b := range invalidBallots() {
		if b.View == 2 {
			b.View = 0
		}
		wrong[what] = impl.Tally{L: []impl.Ballot{b}}
	}
	for i, field := range []string{"Props", "Votes", "Readies", "Dones"} {
		for what, x := range wrong {
			all[name+" with "+what+" in "+field] = changed(base, func(r *impl.Rep) { *tallies(r)[i] = x })
		}
	}
	for view := 1; view <= 9; view++ {
		all[name+" with Dones of view "+strconv.Itoa(view)] = changed(base, func(r *impl.Rep) { r.Dones = tally(0, 0, 5, 3, view, 7) })
	}
}

func addWrongHeard(all map[string]impl.Rep, name string, base impl.Rep) {
	wrong := map[string][]impl.Heard{
		"of view 0":            {heard(0)},
		"of view 0 at first":   {heard(0), heard(1, reported(0, noLock))},
		"of view -1":           {heard(-1)},
		"of view 10":           {heard(2), heard(10)},
		"a view twice":         {heard(2, reported(0, noLock)), heard(2, reported(2, noLock))},
		"an empty view twice":  {heard(2), heard(2)},
		"views descending":     {heard(3), heard(2)},
		"the last descending":  {heard(1), heard(3), heard(2)},
		"of the replica 4":     {heard(2, reported(0, noLock), reported(4, noLock))},
		"of the replica 6":     {heard(2), heard(3, reported(6, noLock))},
		"a lock at the view":   {heard(2, reported(0, lockOn(2, 5)))},
		"a vote at the view":   {heard(2, reported(0, noLock, 2, 5))},
		"a sender twice":       {heard(2, reported(0, noLock), reported(0, noLock))},
		"senders descending":   {heard(2, reported(3, noLock), reported(0, noLock))},
		"a thousand elements":  make([]impl.Heard, 1000),
		"the last not valid":   {heard(2, reported(0, noLock)), heard(9, reported(0, noLock, 0, 61))},
		"the middle not valid": {heard(2), heard(4, reported(0, lockOn(0, 61))), heard(9)},
	}
	for what, l := range wrong {
		all[name+" heard "+what] = changed(base, func(r *impl.Rep) { r.Heard = l })
	}
	for what, x := range invalidReports() {
		all[name+" heard with "+what] = changed(base, func(r *impl.Rep) { r.Heard = []impl.Heard{heard(3, x)} })
	}
}

// spareRep returns r with room behind each of its slices, and what tells whether any of the memory was written.
func spareRep(r impl.Rep) (impl.Rep, func() bool) {
	var rooms [][]impl.Ballot
	for _, x := range tallies(&r) {
		var room []impl.Ballot
		*x, room = spareTally(*x)
		rooms = append(rooms, room)
	}
	var voted []impl.Vote
	r.Voted, voted = spare(r.Voted)
	all := make([]impl.Heard, len(r.Heard)+3)
	var kept []func() bool
	for i := range all {
		all[i] = heard(70+i, reported(71, lockOn(72, 73)))
		if i < len(r.Heard) {
			all[i] = r.Heard[i]
		}
		var same func() bool
		all[i].L, same = spareReports(all[i].L)
		kept = append(kept, same)
	}
	r.Heard = all[:len(r.Heard)]
	before, beforeRooms, beforeVoted := slices.Clone(all), clones(rooms), slices.Clone(voted)
	return r, func() bool {
		for _, same := range kept {
			if !same() {
				return false
			}
		}
		return slices.EqualFunc(all, before, sameHeard) && slices.Equal(voted, beforeVoted) && slices.EqualFunc(rooms, beforeRooms, slices.Equal[[]impl.Ballot])
	}
}

func clones[T any](l [][]T) [][]T {
	var out [][]T
	for _, x := range l {
		out = append(out, slices.Clone(x))
	}
	return out
}

// A span is the memory of a slice, with the room behind it.
type span struct {
	of       string
	from, to uintptr
}

func spanOf[T any](of string, l []T) span {
	start := uintptr(unsafe.Pointer(unsafe.SliceData(l)))
	var one T
	return span{of, start, start + uintptr(cap(l))*unsafe.Sizeof(one)}
}

func repSpans(of string, r impl.Rep) []span {
	l := []span{spanOf(of+" Voted", r.Voted), spanOf(of+" Heard", r.Heard)}
	for i, x := range tallies(&r) {
		l = append(l, spanOf(of+" tally "+strconv.Itoa(i), x.L))
	}
	for _, h := range r.Heard {
		name := of + " Heard of view " + strconv.Itoa(h.View)
		l = append(l, spanOf(name, h.L))
		for _, x := range h.L {
			l = append(l, spanOf(name+" from "+strconv.Itoa(x.From), x.Votes))
		}
	}
	return l
}

func msgSpans(of string, msgs []impl.Msg) []span {
	l := []span{spanOf(of+" messages", msgs)}
	for i, m := range msgs {
		l = append(l, spanOf(of+" message "+strconv.Itoa(i), m.Votes))
	}
	return l
}

// overlap tells which of the results' spans is part of another result or of an argument, if one is.
func overlap(results, args []span) string {
	all := append(slices.Clone(results), args...)
	for i, a := range results {
		for k, b := range all {
			if i != k && a.from < b.to && b.from < a.to {
				return a.of + " and " + b.of
			}
		}
	}
	return ""
}

package impl

import (
	"bytes"
	"strconv"
	"strings"
)

const MaxView = 9
const MaxVal = 60

const MsPropose = 0
const MsVote = 1
const MsReady = 2
const MsReport = 3
const MsDone = 4

type Vote struct {
	View int
	Val  int
}

type Msg struct {
	Kind  int
	View  int
	Val   int
	Lock  Vote
	Votes []Vote
}

// A message holds only the fields that its kind uses, so that each kind states its own rules.
type message interface {
	ok() bool
	word() string
}

// A castMsg is a propose, a vote or a ready: the three kinds that name a value in a view.
type castMsg struct {
	kind int
	view int
	val  int
}

type reportMsg struct {
	view  int
	lock  Vote
	votes []Vote
}

type doneMsg struct {
	val int
}

func (c castMsg) ok() bool { return viewOk(c.view) && ValOk(c.val) }

func (c castMsg) word() string {
	switch c.kind {
	case MsPropose:
		return "propose"
	case MsVote:
		return "vote"
	}
	return "ready"
}

func (r reportMsg) ok() bool {
	return viewOk(r.view) && r.view != 0 && lockOk(r.lock, r.view) && VotesOk(r.votes, r.view)
}

func (r reportMsg) word() string { return "report" }

func (d doneMsg) ok() bool { return ValOk(d.val) }

func (d doneMsg) word() string { return "done" }

// messageOf returns the message that m stands for, and whether m is valid.
func messageOf(m Msg) (message, bool) {
	plain := m.Lock == Vote{} && len(m.Votes) == 0
	switch m.Kind {
	case MsPropose, MsVote, MsReady:
		c := castMsg{m.Kind, m.View, m.Val}
		return c, plain && c.ok()
	case MsReport:
		r := reportMsg{m.View, m.Lock, m.Votes}
		return r, m.Val == 0 && r.ok()
	case MsDone:
		d := doneMsg{m.Val}
		return d, plain && m.View == 0 && d.ok()
	}
	return nil, false
}

func viewOk(view int) bool { return 0 <= view && view <= MaxView }

func ValOk(v int) bool { return 1 <= v && v <= MaxVal }

// voteOk reports whether v is a vote for a value in a view below the view below.
func voteOk(v Vote, below int) bool {
	return viewOk(v.View) && v.View < below && ValOk(v.Val)
}

// lockOk reports whether v is no lock or a lock below the view below.
func lockOk(v Vote, below int) bool { return v == Vote{} || voteOk(v, below) }

func VotesOk(l []Vote, below int) bool {
	for i, v := range l {
		if !voteOk(v, below) || i > 0 && v.View <= l[i-1].View {
			return false
		}
	}
	return true
}

func MsgOk(m Msg) bool {
	_, ok := messageOf(m)
	return ok
}

func MsgBytes(m Msg) ([]byte, bool) {
	if !MsgOk(m) {
		return nil, false
	}
	b := []byte{byte(m.Kind), byte(m.View), byte(m.Val), byte(m.Lock.View), byte(m.Lock.Val), byte(len(m.Votes))}
	for _, v := range m.Votes {
		b = append(b, byte(v.View), byte(v.Val))
	}
	return b, true
}

// A decoder takes an encoding from the front. It panics where the bytes cannot be one, so that
// its steps need no results for failure; MsgRead recovers.
type decoder struct {
	rest []byte
}

func demand(ok bool) {
	if !ok {
		panic("not the encoding of a message")
	}
}

func (d *decoder) number() int {
	demand(len(d.rest) > 0)
	n := int(d.rest[0])
	d.rest = d.rest[1:]
	return n
}

func (d *decoder) vote() Vote {
	view := d.number()
	val := d.number()
	return Vote{view, val}
}

func (d *decoder) msg() Msg {
	var m Msg
	m.Kind = d.number()
	m.View = d.number()
	m.Val = d.number()
	m.Lock = d.vote()
	for range d.number() {
		m.Votes = append(m.Votes, d.vote())
	}
	demand(len(d.rest) == 0)
	demand(MsgOk(m))
	return m
}

func MsgRead(b []byte) (m Msg, ok bool) {
	defer func() {
		if recover() != nil {
			m, ok = Msg{}, false
		}
	}()
	d := decoder{b}
	return d.msg(), true
}

func MsgCmp(a Msg, b Msg) int {
	x, okA := MsgBytes(a)
	y, okB := MsgBytes(b)
	if !okA || !okB {
		return 0
	}
	return bytes.Compare(x, y)
}

func MsgText(m Msg) []byte {
	x, ok := messageOf(m)
	if !ok {
		return nil
	}
	return []byte(strings.Join(words(x), " "))
}

func words(m message) []string {
	l := []string{m.word()}
	switch x := m.(type) {
	case castMsg:
		l = append(l, strconv.Itoa(x.view), strconv.Itoa(x.val))
	case doneMsg:
		l = append(l, strconv.Itoa(x.val))
	case reportMsg:
		l = append(l, strconv.Itoa(x.view))
		l = append(l, boundWords(x.lock)...)
		for _, v := range x.votes {
			l = append(l, voteWord(v))
		}
	}
	return l
}

func boundWords(lock Vote) []string {
	if lock == (Vote{}) {
		return nil
	}
	return []string{"bound", voteWord(lock)}
}

func voteWord(v Vote) string { return strconv.Itoa(v.View) + ":" + strconv.Itoa(v.Val) }

func Bare(kind int, view int, val int) (Msg, bool) {
	m := Msg{Kind: kind, View: view, Val: val}
	if kind == MsReport || !MsgOk(m) {
		return Msg{}, false
	}
	return m, true
}

func VoteIn(m Msg, view int) (int, bool) {
	if !MsgOk(m) {
		return 0, false
	}
	for _, v := range m.Votes {
		if v.View == view {
			return v.Val, true
		}
	}
	return 0, false
}

func WithVote(m Msg, v Vote) (Msg, bool) {
	if m.Kind != MsReport || !MsgOk(m) {
		return Msg{}, false
	}
	m.Votes = insertVote(m.Votes, v)
	if !MsgOk(m) {
		return Msg{}, false
	}
	return m, true
}

// insertVote copies l: appending in place could write into the spare capacity of an argument.
func insertVote(l []Vote, v Vote) []Vote {
	at := 0
	for at < len(l) && l[at].View < v.View {
		at++
	}
	out := append([]Vote{}, l[:at]...)
	out = append(out, v)
	return append(out, l[at:]...)
}

func BoundTo(m Msg) (Vote, bool) {
	if !MsgOk(m) || m.Lock == (Vote{}) {
		return Vote{}, false
	}
	return m.Lock, true
}

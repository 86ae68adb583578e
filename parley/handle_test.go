package parley_test

import (
	"fmt"
	"math"
	"slices"
	"strings"
	"testing"

	"parley/api"
	"parley/parley"
)

func proposed(view int, just api.Cert, command string) api.Message {
	return proposalOf(view%4, api.Block{View: view, Just: just, Command: command}).Message
}

func voteOf(from, view int, number uint64) api.Letter {
	return api.Letter{To: (view + 1) % 4, Message: api.Message{
		Kind: 2, From: from, View: view, Number: number,
		Seal: hashOf(fmt.Sprintf("member %d 2 %d %d", from, view, number)),
	}}
}

func voteFor(from int, p api.Message) api.Message {
	return voteOf(from, p.View, parley.Number(p.Block)).Message
}

func entering(from, view int, cert api.Cert) api.Message { return enterOf(from, view, cert).Message }

// certFor makes a good certificate for what a proposal proposes.
func certFor(p api.Message, members ...int) api.Cert {
	if len(members) == 0 {
		members = []int{0, 1, 2}
	}
	return certBy(p.View, parley.Number(p.Block), members...)
}

// lineOf makes proposals for these views, each behind the one before it, the
// first behind the first block. Their commands tell their views.
func lineOf(views ...int) []api.Message { return lineBehind(api.Cert{}, views...) }

func lineBehind(just api.Cert, views ...int) []api.Message {
	var line []api.Message
	for _, view := range views {
		p := proposed(view, just, fmt.Sprint("c", view))
		line = append(line, p)
		just = certFor(p)
	}
	return line
}

func handle(t *testing.T, m *parley.Member, message api.Message, want api.Errno, letters ...api.Letter) {
	t.Helper()
	got, errno := m.Handle(message)
	if errno != want || !slices.Equal(got, letters) {
		t.Fatalf("Handle(%+v) = %+v, %d, want %+v, %d", message, got, errno, letters, want)
	}
}

// hear lets a member hear proposals that it takes and votes for.
func hear(t *testing.T, m *parley.Member, id int, proposals ...api.Message) {
	t.Helper()
	for _, p := range proposals {
		handle(t, m, p, api.OK, voteOf(id, p.View, parley.Number(p.Block)))
	}
}

func memberThatHeard(t *testing.T, id, patience int, proposals ...api.Message) *parley.Member {
	t.Helper()
	m := newMember(t, id, patience)
	hear(t, m, id, proposals...)
	return m
}

// state is all that a member tells.
type state struct {
	view         int
	high, locked api.Cert
	log          string
}

func stateOf(m *parley.Member) state {
	return state{m.View(), m.High(), m.Locked(), strings.Join(m.Log(), ",")}
}

func wantState(t *testing.T, m *parley.Member, view int, high, locked api.Cert, log ...string) {
	t.Helper()
	if got, want := stateOf(m), (state{view, high, locked, strings.Join(log, ",")}); got != want || len(m.Log()) != len(log) {
		t.Fatalf("the member has %+v, want %+v", got, want)
	}
}

// wantWaited asks how many ticks a member has waited, by the ticks that are left.
func wantWaited(t *testing.T, m *parley.Member, patience, waited int) {
	t.Helper()
	view := m.View()
	for i := waited + 1; i < patience; i++ {
		m.Tick()
		if m.View() != view {
			t.Fatalf("it left view %d after %d of %d ticks, with %d waited before", view, i, patience, waited)
		}
	}
	m.Tick()
	if m.View() != view+1 {
		t.Fatalf("it is in view %d after all its ticks in view %d", m.View(), view)
	}
}

// fault is one way to spoil a message. Two faults of one field exclude each other.
type fault[Draft any] struct {
	field string
	errno api.Errno
	spoil func(*Draft)
}

// eachSpoiled visits the draft with each set of the faults, and the error that
// is named first among theirs.
func eachSpoiled[Draft any](good Draft, faults []fault[Draft], visit func(spoiled Draft, first api.Errno)) {
	for set := range 1 << len(faults) {
		draft, first, fields := good, api.Errno(math.MaxInt), " "
		clash := false
		for i, f := range faults {
			if set>>i&1 == 0 {
				continue
			}
			clash = clash || strings.Contains(fields, " "+f.field+" ")
			fields += f.field + " "
			f.spoil(&draft)
			first = min(first, f.errno)
		}
		if set != 0 && !clash {
			visit(draft, first)
		}
	}
}

var wrongKinds = []int{math.MinInt, -3, -2, -1, 0, 4, 5, 10, math.MaxInt}

func TestP5ARefusedKind(t *testing.T) {
	one := lineOf(1)[0]
	for id := range api.Members {
		for _, kind := range wrongKinds {
			m := newMember(t, id, 3)
			m.Tick()
			before := stateOf(m)
			for _, message := range []api.Message{one, voteFor(0, one), entering(2, 1, api.Cert{}), {}} {
				message.Kind = kind
				handle(t, m, message, api.ErrForm)
			}
			if stateOf(m) != before {
				t.Errorf("kind %d: the member has %+v, had %+v", kind, stateOf(m), before)
			}
			wantWaited(t, m, 3, 1)
		}
	}
}

func TestP5AProposalIsMadeEvenWithAnError(t *testing.T) {
	own := proposalOf(1, api.Block{View: 1, Command: "mine"})
	badSeal := voteOf(3, 4, 0).Message
	badSeal.Seal++
	for _, c := range []struct {
		message api.Message
		want    api.Errno
	}{
		{api.Message{}, api.ErrForm},
		{api.Message{Kind: 4}, api.ErrForm},
		{proposed(0, api.Cert{}, ""), api.ErrForm},
		{voteOf(3, 1, 0).Message, api.ErrForm},
		{entering(4, 1, api.Cert{}), api.ErrForm},
		{badSeal, api.ErrSeal},
		{proposed(2, certBy(1, 9, 0, 1), ""), api.ErrSeal},
		{entering(3, 5, certBy(1, 9, 0, 1)), api.ErrSeal},
		{voteOf(3, 4, 77).Message, api.ErrBlock},
		{proposed(2, certBy(1, 9, 0, 1, 2), ""), api.ErrBlock},
		{entering(3, 5, certBy(1, 9, 0, 1, 2)), api.ErrBlock},
		{entering(3, 1, api.Cert{}), api.OK},
		{entering(3, 5, api.Cert{}), api.OK},
	} {
		m := newMember(t, 1, 9)
		submit(t, m, "mine", api.OK)
		submit(t, m, "next", api.OK)
		handle(t, m, c.message, c.want, own)
		wantState(t, m, 1, api.Cert{}, api.Cert{})
		handle(t, m, api.Message{Kind: 4}, api.ErrForm) // once in a view
		wantWaited(t, m, 9, 0)
	}
}

func TestP5WhatIsSentIsToldInOrder(t *testing.T) {
	// In the last view alone a member stays where it has voted: if it leads that
	// view, High may let it propose in the same call.
	line := lineOf(999, 1000)
	m := memberThatHeard(t, 0, 5, line[0])
	submit(t, m, "last", api.OK)
	handle(t, m, line[1], api.OK,
		voteOf(0, 1000, parley.Number(line[1].Block)),
		proposalOf(0, api.Block{View: 1000, Just: certFor(line[0]), Command: "last"}))
	wantState(t, m, 1000, certFor(line[0]), api.Cert{})
}

func TestP5FieldsThatAreNotNamedAreNotLookedAt(t *testing.T) {
	one := lineOf(1)[0]
	junk := api.Block{View: -5, Just: api.Cert{View: -1, Block: 8}, Command: strings.Repeat("long", 99)}
	bad := api.Cert{View: -9, Block: 9}

	m := newMember(t, 2, 5)
	p := one
	p.Number, p.Cert = 99, bad
	hear(t, m, 2, p) // the Vote that is sent has these fields empty

	for from := range 3 {
		v := voteFor(from, one)
		v.Block, v.Cert = junk, bad
		if letters, errno := m.Handle(v); errno != api.OK || (from == 2) != (len(letters) == 1) {
			t.Errorf("Handle(%+v) = %+v, %d", v, letters, errno)
		}
	}
	if m.High() != certFor(one) {
		t.Errorf("High %+v", m.High())
	}

	m = newMember(t, 3, 5)
	for from := range 3 {
		e := entering(from, 7, api.Cert{})
		e.Block, e.Number = junk, 98
		if letters, errno := m.Handle(e); errno != api.OK || (from == 2) != (len(letters) == 1) {
			t.Errorf("Handle(%+v) = %+v, %d", e, letters, errno)
		}
	}
}

func TestP1HandleStandsAllMessages(t *testing.T) {
	seals := []func(x api.Message) uint64{
		func(x api.Message) uint64 { return 0 },
		func(x api.Message) uint64 { return parley.Seal(x.From, x.Kind, x.View, x.Number) },
		func(x api.Message) uint64 { return parley.Seal(x.From, x.Kind, x.View, parley.Number(x.Block)) },
	}
	kinds := append([]int{api.Proposal, api.Vote, api.Enter}, wrongKinds...)
	for id := range api.Members {
		m := memberThatHeard(t, id, 2, lineOf(1, 2)...)
		for _, kind := range kinds {
			for _, from := range someInts {
				for _, view := range someInts {
					for _, inner := range someInts {
						cert := certBy(inner, 0, 0, 1, 2)
						x := api.Message{Kind: kind, From: from, View: view, Cert: cert, Block: api.Block{View: view, Just: cert, Command: "x"}}
						if inner == 4 {
							x.Block.Command = strings.Repeat("x", 1<<12)
						}
						for _, seal := range seals {
							x.Seal = seal(x)
							before := stateOf(m)
							if _, errno := m.Handle(x); errno != api.OK && stateOf(m) != before {
								t.Fatalf("refused with %d, %+v changes the member from %+v to %+v", errno, x, before, stateOf(m))
							}
						}
					}
				}
			}
		}
	}
}

func TestP1LettersOfHandleAreNewMemory(t *testing.T) {
	line := lineOf(1, 2, 3, 4, 5, 6, 7, 8, 9)
	for id := range api.Members {
		m, twin := newMember(t, id, 5), newMember(t, id, 5)
		var kept, copies [][]api.Letter
		for _, p := range line {
			for _, x := range []api.Message{p, voteFor(0, p), voteFor(1, p), voteFor(3, p), entering(2, p.View+3, p.Block.Just)} {
				letters, errno := m.Handle(x)
				same, twinErrno := twin.Handle(x)
				if errno != twinErrno || !slices.Equal(letters, same) || stateOf(m) != stateOf(twin) {
					t.Fatalf("Handle(%+v) = %+v, %d and %+v, %d", x, letters, errno, same, twinErrno)
				}
				letters = letters[:cap(letters)]
				for i := range letters {
					letters[i] = api.Letter{To: 99, Message: api.Message{Kind: 9, Cert: api.Cert{View: 9}}}
				}
				log := m.Log()
				log = log[:cap(log)]
				for i := range log {
					log[i] = "no"
				}
				kept, copies = append(kept, same), append(copies, slices.Clone(same))
			}
		}
		if len(m.Log()) == 0 {
			t.Errorf("member %d committed nothing", id)
		}
		for i := range kept {
			if !slices.Equal(kept[i], copies[i]) {
				t.Errorf("an earlier answer became %+v, was %+v", kept[i], copies[i])
			}
		}
	}
}

func TestP1MembersHearNothingOfWhatOthersHeard(t *testing.T) {
	line := lineOf(1, 2, 3, 4, 5)
	one, other := memberThatHeard(t, 3, 9, line...), newMember(t, 3, 9)
	wantState(t, other, 1, api.Cert{}, api.Cert{})
	handle(t, other, line[1], api.ErrBlock)
	handle(t, one, line[1], api.ErrOld)
	handle(t, one, entering(0, 7, certFor(line[4])), api.OK)
	handle(t, other, entering(0, 7, certFor(line[4])), api.ErrBlock)
	handle(t, other, entering(0, 7, api.Cert{}), api.OK)
}

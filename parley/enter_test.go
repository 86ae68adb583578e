package parley_test

import (
	"math"
	"testing"

	"parley/api"
	"parley/parley"
)

type enterDraft struct {
	from, view, certView int
	block                uint64
	sealers              []int
	sealOff              uint64
}

func (d enterDraft) message() api.Message {
	x := entering(d.from, d.view, certBy(d.certView, d.block, d.sealers...))
	x.Seal += d.sealOff
	return x
}

func enterFaults(view int) []fault[enterDraft] {
	return []fault[enterDraft]{
		{"from", api.ErrForm, func(d *enterDraft) { d.from = -1 }},
		{"from", api.ErrForm, func(d *enterDraft) { d.from = 4 }},
		{"view", api.ErrForm, func(d *enterDraft) { d.view++ }},
		{"view", api.ErrForm, func(d *enterDraft) { d.view += 1000 }},
		{"cert", api.ErrForm, func(d *enterDraft) { d.certView = -1 }},
		{"cert", api.ErrForm, func(d *enterDraft) { d.certView = view + 1000 }},
		{"seal", api.ErrSeal, func(d *enterDraft) { d.sealOff = 1 }},
		{"sealers", api.ErrSeal, func(d *enterDraft) { d.sealers = []int{2, 0} }},
		{"cert", api.ErrBlock, func(d *enterDraft) { d.certView-- }},
		{"block", api.ErrBlock, func(d *enterDraft) { d.block++ }},
	}
}

func TestP7TheFirstNamedErrorOfAnEnter(t *testing.T) {
	line := lineOf(1, 2, 4)
	m := memberThatHeard(t, 3, 9, line[0], line[1])
	cert := certFor(line[1])
	early := entering(0, 3, certFor(line[0]))
	handle(t, m, early, api.OK)
	handle(t, m, early, api.ErrTwice)
	hear(t, m, 3, line[2]) // it is in view 5
	taken, old, good := entering(0, 7, cert), entering(1, 3, cert), entering(2, 7, cert)
	handle(t, m, taken, api.OK)
	for _, c := range []struct {
		message api.Message
		want    api.Errno
	}{
		{taken, api.ErrTwice},
		{old, api.ErrOld},
		{early, api.ErrOld}, // and twice, which is named later
		{good, api.OK},
	} {
		before := stateOf(m)
		x := c.message
		d := enterDraft{x.From, x.View, x.Cert.View, x.Cert.Block, []int{0, 1, 2}, 0}
		eachSpoiled(d, enterFaults(x.View), func(d enterDraft, first api.Errno) {
			handle(t, m, d.message(), first)
		})
		handle(t, m, x, c.want)
		if stateOf(m) != before {
			t.Errorf("the member has %+v, had %+v", stateOf(m), before)
		}
	}
}

func TestP7ViewsOfAnEnter(t *testing.T) {
	for _, view := range append([]int{5, 996, 997, 998, 1002, 1003, 1004, -3, -4}, someInts...) {
		for id := range api.Members {
			m := newMember(t, id, 9)
			m.Tick()
			want := api.ErrForm
			if view >= 1 && view <= 1000 && id == view%4 {
				want = api.OK
			}
			handle(t, m, entering(2, view, api.Cert{}), want)
		}
	}
}

func TestP7WhoEnters(t *testing.T) {
	for _, from := range someInts {
		want := api.ErrForm
		if from >= 0 && from <= 3 {
			want = api.OK
		}
		handle(t, newMember(t, 2, 9), entering(from, 6, api.Cert{}), want)
	}
}

func TestP7ViewsOfTheCert(t *testing.T) {
	line := lineOf(1, 4)
	for _, view := range append([]int{6, 7, 8}, someInts...) {
		m := memberThatHeard(t, 3, 9, line...)
		d := enterDraft{0, 7, view, parley.Number(line[1].Block), []int{0, 1, 2}, 0}
		switch {
		case view == 4:
			handle(t, m, d.message(), api.OK)
		case view < 0 || view >= 7:
			handle(t, m, d.message(), api.ErrForm)
		default:
			handle(t, m, d.message(), api.ErrBlock)
		}
	}
	// A certificate of the view just ahead is taken.
	p := proposed(6, api.Cert{}, "x")
	m := memberThatHeard(t, 3, 9, p)
	handle(t, m, entering(0, 7, certFor(p)), api.OK, proposalOf(3, api.Block{View: 7, Just: certFor(p)}))
}

func TestP7TheSealOfAnEnter(t *testing.T) {
	line := lineOf(1)
	m := memberThatHeard(t, 3, 9, line...)
	good := entering(1, 7, certFor(line[0]))
	n := parley.Number(line[0].Block)
	for _, seal := range []uint64{
		0, good.Seal + 1, good.Seal ^ 1<<63,
		parley.Seal(0, api.Enter, 7, 0), parley.Seal(1, api.Vote, 7, 0), parley.Seal(1, api.Proposal, 7, 0),
		parley.Seal(1, api.Enter, 3, 0), parley.Seal(1, api.Enter, 7, n), parley.Seal(1, api.Enter, 7, 1),
	} {
		x := good
		x.Seal = seal
		handle(t, m, x, api.ErrSeal)
	}
	handle(t, m, good, api.OK)
}

func TestP7TheCertIsGood(t *testing.T) {
	line := lineOf(1)
	for set := range 1 << api.Members {
		sealers := membersOf(set)
		m := memberThatHeard(t, 3, 9, line...)
		if len(sealers) >= api.Quorum {
			handle(t, m, entering(0, 7, certFor(line[0], sealers...)), api.OK)
			wantState(t, m, 2, certFor(line[0], sealers...), api.Cert{})
		} else if len(sealers) > 0 {
			handle(t, m, entering(0, 7, certFor(line[0], sealers...)), api.ErrSeal)
			wantState(t, m, 2, api.Cert{}, api.Cert{})
		}
		want := api.ErrSeal
		if len(sealers) == 0 || len(sealers) >= api.Quorum {
			want = api.OK
		}
		handle(t, m, entering(1, 7, certBy(0, 0, sealers...)), want)
	}
	m := memberThatHeard(t, 3, 9, line...)
	handle(t, m, entering(0, 7, api.Cert{View: 1, Block: parley.Number(line[0].Block)}), api.ErrSeal)
	handle(t, m, entering(0, 7, api.Cert{View: 1}), api.ErrSeal)
}

func TestP7TheCertsBlockIsKnownAndOfItsView(t *testing.T) {
	line := lineOf(1, 2)
	n := parley.Number(line[0].Block)
	m := memberThatHeard(t, 3, 9, line[0])
	for _, cert := range []api.Cert{
		certFor(line[1]), certBy(1, 0, 0, 1, 2), certBy(0, n, 0, 1, 2), certBy(2, n, 0, 1, 2),
		certBy(0, parley.Number(api.Block{}), 0, 1, 2), certBy(1, math.MaxUint64, 0, 1, 2), certBy(1, n+1, 0, 1, 2, 3),
	} {
		handle(t, m, entering(0, 7, cert), api.ErrBlock)
	}
	wantState(t, m, 2, api.Cert{}, api.Cert{})
	handle(t, m, entering(0, 7, certFor(line[0])), api.OK)
}

func TestP7TheThirdEnterEntersAndProposes(t *testing.T) {
	line := lineOf(1, 2)
	for _, order := range [][]int{{0, 1, 2, 3}, {3, 2, 1, 0}, {2, 0, 3, 1}, {1, 3, 0, 2}} {
		for _, view := range []int{3, 7, 11, 999} {
			m := memberThatHeard(t, 3, 9, line...)
			submit(t, m, "mine", api.OK)
			m.Tick()
			certs := []api.Cert{{}, certFor(line[0]), {}}
			for i, from := range order[:2] {
				handle(t, m, entering(from, view, certs[i]), api.OK)
				handle(t, m, entering(from, view, certs[i]), api.ErrTwice)
				handle(t, m, entering(from, view, certFor(line[0], 1, 2, 3)), api.ErrTwice)
				wantState(t, m, 3, certFor(line[0]), api.Cert{})
			}
			handle(t, m, entering(order[2], view, certs[2]), api.OK, proposalOf(3, api.Block{View: view, Just: certFor(line[0]), Command: "mine"}))
			wantState(t, m, view, certFor(line[0]), api.Cert{})
			handle(t, m, entering(order[3], view, api.Cert{}), api.OK)
			for _, from := range order {
				handle(t, m, entering(from, view, api.Cert{}), api.ErrTwice)
			}
			if view == 3 {
				wantWaited(t, m, 9, 1) // it was there already
			} else {
				wantWaited(t, m, 9, 0)
			}
		}
	}
}

func TestP7TheProposalBehindEntersHasTheHighestCertificate(t *testing.T) {
	line := lineOf(1, 2, 3, 4)
	for which := range 3 {
		m := memberThatHeard(t, 3, 9, line...)
		wantState(t, m, 5, certFor(line[2]), certFor(line[1]), "c1")
		cert := certFor(line[3], 1, 2, 3)
		for from := range 3 {
			told := api.Cert{}
			if from == which {
				told = cert
			}
			letters, errno := m.Handle(entering(from, 11, told))
			if from < 2 {
				if errno != api.OK || len(letters) != 0 {
					t.Fatalf("the Enter of %d: %+v, %d", from, letters, errno)
				}
				continue
			}
			wantLetters(t, letters, proposalOf(3, api.Block{View: 11, Just: cert}))
		}
		wantState(t, m, 11, cert, certFor(line[2]), "c1", "c2")
	}
}

func TestP7EntersOfDifferentViewsDoNotAddUp(t *testing.T) {
	m := newMember(t, 3, 9)
	for from, view := range []int{3, 7, 11, 15} {
		handle(t, m, entering(from, view, api.Cert{}), api.OK)
		handle(t, m, entering((from+1)%4, view, api.Cert{}), api.OK)
	}
	wantState(t, m, 1, api.Cert{}, api.Cert{})
	handle(t, m, entering(0, 11, api.Cert{}), api.OK, proposalOf(3, api.Block{View: 11}))
	for from := range api.Members {
		handle(t, m, entering(from, 7, api.Cert{}), api.ErrOld)
	}
	// What was taken for a later view still counts.
	handle(t, m, entering(0, 15, api.Cert{}), api.ErrTwice)
	handle(t, m, entering(1, 15, api.Cert{}), api.OK, proposalOf(3, api.Block{View: 15}))
	wantState(t, m, 15, api.Cert{}, api.Cert{})
}

func TestP7EntersForTheViewThatItIsIn(t *testing.T) {
	m := newMember(t, 2, 2)
	m.Tick()
	m.Tick()
	m.Tick()
	wantState(t, m, 2, api.Cert{}, api.Cert{})
	handle(t, m, entering(2, 2, api.Cert{}), api.OK)
	handle(t, m, entering(0, 2, api.Cert{}), api.OK)
	handle(t, m, entering(1, 2, api.Cert{}), api.OK, proposalOf(2, api.Block{View: 2}))
	wantState(t, m, 2, api.Cert{}, api.Cert{})
	wantWaited(t, m, 2, 1)
}

func TestP7EntersForTheFirstAndTheLastView(t *testing.T) {
	m := newMember(t, 1, 9)
	own := proposalOf(1, api.Block{View: 1})
	handle(t, m, entering(0, 1, api.Cert{}), api.OK, own)
	handle(t, m, entering(0, 1, api.Cert{}), api.ErrTwice)
	handle(t, m, entering(2, 1, api.Cert{}), api.OK)
	handle(t, m, entering(3, 1, api.Cert{}), api.OK) // it has proposed in it

	m = newMember(t, 0, 9)
	submit(t, m, "end", api.OK)
	handle(t, m, entering(1, 1000, api.Cert{}), api.OK)
	handle(t, m, entering(2, 1000, api.Cert{}), api.OK)
	last := proposalOf(0, api.Block{View: 1000, Command: "end"})
	handle(t, m, entering(3, 1000, api.Cert{}), api.OK, last)
	wantState(t, m, 1000, api.Cert{}, api.Cert{})
	hear(t, m, 0, last.Message)
	handle(t, m, entering(0, 1000, api.Cert{}), api.OK)
	handle(t, m, entering(0, 1000, api.Cert{}), api.ErrTwice)
	wantLetters(t, m.Tick())
}

func TestP7EntersAreKeptWhileTheViewIsAhead(t *testing.T) {
	line := lineOf(1, 2, 3, 4, 5)
	m := newMember(t, 3, 9)
	handle(t, m, entering(0, 7, api.Cert{}), api.OK)
	handle(t, m, entering(1, 7, api.Cert{}), api.OK)
	hear(t, m, 3, line...)
	handle(t, m, entering(1, 7, api.Cert{}), api.ErrTwice)
	m.Tick()
	handle(t, m, entering(2, 7, certFor(line[4], 0, 1, 3)), api.OK, proposalOf(3, api.Block{View: 7, Just: certFor(line[4], 0, 1, 3)}))
	wantState(t, m, 7, certFor(line[4], 0, 1, 3), certFor(line[3]), "c1", "c2", "c3")
}

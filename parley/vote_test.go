package parley_test

import (
	"math"
	"testing"

	"parley/api"
	"parley/parley"
)

type voteDraft struct {
	from, view int
	number     uint64
	sealOff    uint64
}

func (d voteDraft) message() api.Message {
	x := voteOf(d.from, d.view, d.number).Message
	x.Seal += d.sealOff
	return x
}

// voteFaults spoil a vote to member 2 for the block of a view.
func voteFaults() []fault[voteDraft] {
	return []fault[voteDraft]{
		{"from", api.ErrForm, func(d *voteDraft) { d.from = -1 }},
		{"from", api.ErrForm, func(d *voteDraft) { d.from = 4 }},
		{"view", api.ErrForm, func(d *voteDraft) { d.view++ }},
		{"view", api.ErrForm, func(d *voteDraft) { d.view-- }},
		{"view", api.ErrForm, func(d *voteDraft) { d.view = -3 }},
		{"view", api.ErrForm, func(d *voteDraft) { d.view = 1001 }},
		{"seal", api.ErrSeal, func(d *voteDraft) { d.sealOff = 1 }},
		{"view", api.ErrBlock, func(d *voteDraft) { d.view += 4 }},
		{"number", api.ErrBlock, func(d *voteDraft) { d.number++ }},
		{"number", api.ErrBlock, func(d *voteDraft) { d.number = 0 }},
	}
}

func TestP7TheFirstNamedErrorOfAVote(t *testing.T) {
	line := lineOf(1, 5)
	m := memberThatHeard(t, 2, 9, line[0])
	early := voteFor(0, line[0])
	handle(t, m, early, api.OK)
	handle(t, m, early, api.ErrTwice)
	hear(t, m, 2, line[1]) // it is in view 6
	taken, old, good := voteFor(0, line[1]), voteFor(1, line[0]), voteFor(3, line[1])
	handle(t, m, taken, api.OK)
	for _, c := range []struct {
		message api.Message
		want    api.Errno
	}{
		{taken, api.ErrTwice},
		{old, api.ErrOld},
		{early, api.ErrOld}, // and twice, which is named later
		{good, api.OK},
	} {
		before := stateOf(m)
		d := voteDraft{c.message.From, c.message.View, c.message.Number, 0}
		eachSpoiled(d, voteFaults(), func(d voteDraft, first api.Errno) {
			handle(t, m, d.message(), first)
		})
		handle(t, m, c.message, c.want)
		if stateOf(m) != before {
			t.Errorf("the member has %+v, had %+v", stateOf(m), before)
		}
	}
}

func TestP7ViewsOfAVote(t *testing.T) {
	for _, view := range append([]int{5, 996, 997, 998, 1002, 1003, -3, -4}, someInts...) {
		for id := range api.Members {
			m := newMember(t, id, 9)
			m.Tick()
			number := uint64(0)
			if view >= 1 && view <= 1000 {
				p := proposed(view, api.Cert{}, "x")
				hear(t, m, id, p)
				number = parley.Number(p.Block)
			}
			want := api.ErrForm
			if view >= 1 && view <= 999 && id == (view+1)%4 {
				want = api.OK
			}
			handle(t, m, voteOf(0, view, number).Message, want)
		}
	}
}

func TestP7WhoVotes(t *testing.T) {
	p := proposed(1, api.Cert{}, "x")
	for _, from := range someInts {
		m := memberThatHeard(t, 2, 9, p)
		want := api.ErrForm
		if from >= 0 && from <= 3 {
			want = api.OK
		}
		handle(t, m, voteFor(from, p), want)
	}
}

func TestP7TheSealOfAVote(t *testing.T) {
	p := proposed(1, api.Cert{}, "x")
	n := parley.Number(p.Block)
	m := memberThatHeard(t, 2, 9, p)
	good := voteFor(3, p)
	for _, seal := range []uint64{
		0, good.Seal - 1, good.Seal ^ 1<<63,
		parley.Seal(0, api.Vote, 1, n), parley.Seal(3, api.Proposal, 1, n), parley.Seal(3, api.Enter, 1, n),
		parley.Seal(3, api.Vote, 2, n), parley.Seal(3, api.Vote, 1, n+1), parley.Seal(3, api.Vote, 1, 0),
	} {
		x := good
		x.Seal = seal
		handle(t, m, x, api.ErrSeal)
	}
	handle(t, m, good, api.OK)
}

func TestP7TheBlockOfAVoteIsKnownAndOfItsView(t *testing.T) {
	p := proposed(5, api.Cert{}, "x")
	m := newMember(t, 2, 9)
	handle(t, m, voteFor(0, p), api.ErrBlock)
	hear(t, m, 2, p)
	for _, number := range []uint64{0, 1, math.MaxUint64, parley.Number(api.Block{}), parley.Number(proposed(5, api.Cert{}, "y").Block)} {
		handle(t, m, voteOf(0, 5, number).Message, api.ErrBlock)
	}
	for _, view := range []int{1, 9, 13, 997} {
		handle(t, m, voteOf(0, view, parley.Number(p.Block)).Message, api.ErrBlock)
	}
	handle(t, m, voteFor(0, p), api.OK)
}

func TestP7TheThirdVoteMakesACertificate(t *testing.T) {
	p := proposed(1, api.Cert{}, "x")
	for _, order := range [][]int{{0, 1, 2, 3}, {3, 2, 1, 0}, {2, 0, 3, 1}, {1, 3, 0, 2}, {1, 2, 3, 0}} {
		m := memberThatHeard(t, 2, 9, p)
		submit(t, m, "mine", api.OK)
		for _, from := range order[:2] {
			handle(t, m, voteFor(from, p), api.OK)
			for _, again := range order[:2] {
				if again == from {
					handle(t, m, voteFor(again, p), api.ErrTwice)
				}
			}
			wantState(t, m, 2, api.Cert{}, api.Cert{})
		}
		cert := certFor(p, order[:3]...)
		handle(t, m, voteFor(order[2], p), api.OK, proposalOf(2, api.Block{View: 2, Just: cert, Command: "mine"}))
		wantState(t, m, 2, cert, api.Cert{})
		for _, from := range order {
			handle(t, m, voteFor(from, p), api.ErrOld)
		}
		wantState(t, m, 2, cert, api.Cert{})
	}
}

func TestP7AVoteLeavesTheViewBehindAndTheWaiting(t *testing.T) {
	p := proposed(1, api.Cert{}, "x")
	for votes := range 5 {
		m := memberThatHeard(t, 2, 5, p)
		m.Tick()
		m.Tick()
		for from := range votes {
			m.Handle(voteFor(from, p))
		}
		if m.View() != 2 {
			t.Errorf("after %d votes: view %d", votes, m.View())
		}
		wantWaited(t, m, 5, 2)
	}
}

func TestP7AVoteOfAViewLeftBehindIsOld(t *testing.T) {
	p := proposed(1, api.Cert{}, "x")
	m := memberThatHeard(t, 2, 1, p)
	handle(t, m, voteFor(0, p), api.OK)
	handle(t, m, voteFor(1, p), api.OK)
	m.Tick()
	for from := range api.Members {
		handle(t, m, voteFor(from, p), api.ErrOld)
	}
	wantState(t, m, 3, api.Cert{}, api.Cert{})
}

func TestP7AVoteNotAboveHighIsOld(t *testing.T) {
	p := proposed(1, api.Cert{}, "x")
	m := memberThatHeard(t, 2, 9, p)
	handle(t, m, voteFor(0, p), api.OK)
	cert := certFor(p, 1, 2, 3)
	handle(t, m, entering(1, 6, cert), api.OK, proposalOf(2, api.Block{View: 2, Just: cert}))
	for from := range api.Members {
		handle(t, m, voteFor(from, p), api.ErrOld)
	}
	wantState(t, m, 2, cert, api.Cert{})
}

func TestP7VotesForAnotherBlockOfTheViewDoNotCount(t *testing.T) {
	p, twin := proposed(1, api.Cert{}, "x"), proposed(1, api.Cert{}, "twin")
	m := memberThatHeard(t, 2, 9, p)
	handle(t, m, twin, api.ErrOld)
	for from := range api.Members {
		handle(t, m, voteFor(from, twin), api.ErrBlock)
	}
	handle(t, m, voteFor(0, p), api.OK)
	handle(t, m, voteFor(1, p), api.OK)
	wantState(t, m, 2, api.Cert{}, api.Cert{})
	handle(t, m, voteFor(3, p), api.OK, proposalOf(2, api.Block{View: 2, Just: certFor(p, 0, 1, 3)}))
}

func TestP7VotesOfTwoViewsDoNotAddUp(t *testing.T) {
	line := lineOf(1, 5)
	m := memberThatHeard(t, 2, 9, line[0])
	handle(t, m, voteFor(0, line[0]), api.OK)
	handle(t, m, voteFor(1, line[0]), api.OK)
	hear(t, m, 2, line[1])
	handle(t, m, voteFor(3, line[1]), api.OK)
	handle(t, m, voteFor(0, line[1]), api.OK)
	wantState(t, m, 6, certFor(line[0]), api.Cert{})
	cert := certFor(line[1], 0, 1, 3)
	handle(t, m, voteFor(1, line[1]), api.OK, proposalOf(2, api.Block{View: 6, Just: cert}))
	wantState(t, m, 6, cert, certFor(line[0]))
}

func TestP7TheCertificateOfVotesIsLearnedOf(t *testing.T) {
	line := lineOf(1, 2, 3)
	m := memberThatHeard(t, 0, 9, line...)
	submit(t, m, "four", api.OK)
	handle(t, m, voteFor(0, line[2]), api.OK)
	handle(t, m, voteFor(1, line[2]), api.OK)
	cert := certFor(line[2], 0, 1, 2)
	handle(t, m, voteFor(2, line[2]), api.OK, proposalOf(0, api.Block{View: 4, Just: cert, Command: "four"}))
	wantState(t, m, 4, cert, certFor(line[1]), "c1")
}

func TestP7TheLastVotes(t *testing.T) {
	line := lineOf(996, 997, 998, 999)
	m := memberThatHeard(t, 0, 9, line...)
	submit(t, m, "end", api.OK)
	handle(t, m, voteFor(1, line[3]), api.OK)
	handle(t, m, voteFor(2, line[3]), api.OK)
	own := proposalOf(0, api.Block{View: 1000, Just: certFor(line[3], 1, 2, 3), Command: "end"})
	handle(t, m, voteFor(3, line[3]), api.OK, own)
	wantState(t, m, 1000, own.Block.Just, certFor(line[2]), "c996", "c997")
	hear(t, m, 0, own.Message)
	wantState(t, m, 1000, own.Block.Just, certFor(line[2]), "c996", "c997")

	m = newMember(t, 1, 9)
	m.Tick()
	last := proposed(1000, api.Cert{}, "")
	hear(t, m, 1, last)
	for from := range api.Members {
		handle(t, m, voteFor(from, last), api.ErrForm)
	}
}

package parley_test

import (
	"math"
	"strings"
	"testing"

	"parley/api"
	"parley/parley"
)

// proposalDraft has each part of a proposal by itself, so that each can be
// spoiled by itself, with the seals made for what comes out.
type proposalDraft struct {
	from, view, blockView int
	command               string
	justView              int
	parent                uint64
	sealers               []int
	sealOff               uint64
}

func (d proposalDraft) message() api.Message {
	b := api.Block{View: d.blockView, Just: certBy(d.justView, d.parent, d.sealers...), Command: d.command}
	return api.Message{Kind: api.Proposal, From: d.from, View: d.view, Block: b,
		Seal: parley.Seal(d.from, api.Proposal, d.view, parley.Number(b)) + d.sealOff}
}

func draftOf(p api.Message) proposalDraft {
	just := p.Block.Just
	return proposalDraft{p.From, p.View, p.Block.View, p.Block.Command, just.View, just.Block, []int{0, 1, 2}, 0}
}

func proposalFaults(view int) []fault[proposalDraft] {
	return []fault[proposalDraft]{
		{"from", api.ErrForm, func(d *proposalDraft) { d.from = (view + 1) % 4 }},
		{"from", api.ErrForm, func(d *proposalDraft) { d.from = view%4 - 4 }},
		{"from", api.ErrForm, func(d *proposalDraft) { d.from = view%4 + 4 }},
		{"block", api.ErrForm, func(d *proposalDraft) { d.blockView++ }},
		{"command", api.ErrForm, func(d *proposalDraft) { d.command = strings.Repeat("x", api.MaxCommand+1) }},
		{"just", api.ErrForm, func(d *proposalDraft) { d.justView = -1 }},
		{"just", api.ErrForm, func(d *proposalDraft) { d.justView = view }},
		{"seal", api.ErrSeal, func(d *proposalDraft) { d.sealOff = 1 }},
		{"sealers", api.ErrSeal, func(d *proposalDraft) { d.sealers = []int{1, 3} }},
		{"just", api.ErrBlock, func(d *proposalDraft) { d.justView-- }},
		{"parent", api.ErrBlock, func(d *proposalDraft) { d.parent++ }},
	}
}

func TestP6TheFirstNamedErrorOfAProposal(t *testing.T) {
	line := lineOf(1, 2, 4, 6)
	m := memberThatHeard(t, 0, 9, line[:3]...) // it is in view 5
	before := stateOf(m)
	eachSpoiled(draftOf(line[3]), proposalFaults(6), func(d proposalDraft, first api.Errno) {
		handle(t, m, d.message(), first)
	})
	old := proposed(4, certFor(line[1]), "old")
	handle(t, m, old, api.ErrOld)
	eachSpoiled(draftOf(old), proposalFaults(4), func(d proposalDraft, first api.Errno) {
		handle(t, m, d.message(), first)
	})
	if stateOf(m) != before {
		t.Errorf("the member has %+v, had %+v", stateOf(m), before)
	}
	hear(t, m, 0, line[3])
}

func TestP6ViewsOfAProposal(t *testing.T) {
	for _, view := range append([]int{5, 998, 1002, 1004, -4, -1000}, someInts...) {
		for _, from := range append([]int{view % 4, (view%4 + 4) % 4, -view % 4}, someInts...) {
			m := newMember(t, 3, 9)
			d := draftOf(proposed(view, api.Cert{}, "x"))
			d.from, d.sealers = from, nil
			if view >= 1 && view <= 1000 && from == view%4 {
				handle(t, m, d.message(), api.OK, voteOf(3, view, parley.Number(d.message().Block)))
				wantState(t, m, min(view+1, 1000), api.Cert{}, api.Cert{})
			} else {
				handle(t, m, d.message(), api.ErrForm)
				wantState(t, m, 1, api.Cert{}, api.Cert{})
			}
		}
	}
}

func TestP6ViewsOfTheJust(t *testing.T) {
	line := lineOf(1, 2)
	for _, view := range append([]int{5, 6, 7}, someInts...) {
		m := memberThatHeard(t, 3, 9, line...)
		d := draftOf(proposed(6, certFor(line[1]), "x"))
		d.justView = view
		switch {
		case view == 2:
			hear(t, m, 3, d.message())
		case view < 0 || view >= 6:
			handle(t, m, d.message(), api.ErrForm)
		default:
			handle(t, m, d.message(), api.ErrBlock)
		}
	}
}

func TestP6TheBlockHasTheViewOfItsProposal(t *testing.T) {
	for _, view := range someInts {
		d := draftOf(proposed(1, api.Cert{}, "x"))
		d.blockView, d.sealers = view, nil
		want := api.ErrForm
		if view == 1 {
			want = api.OK
		}
		if _, errno := newMember(t, 3, 9).Handle(d.message()); errno != want {
			t.Errorf("a block of view %d proposed in view 1: %d", view, errno)
		}
	}
}

func TestP6CommandsHaveSixteenBytesAtMost(t *testing.T) {
	for _, c := range []struct {
		command string
		want    api.Errno
	}{
		{"", api.OK}, {" ", api.OK}, {"\x00\xff", api.OK}, {strings.Repeat("x", 15), api.OK}, {strings.Repeat("x", 16), api.OK}, {strings.Repeat("é", 8), api.OK},
		{strings.Repeat("x", 17), api.ErrForm}, {strings.Repeat("é", 8) + "x", api.ErrForm}, {strings.Repeat("é", 9), api.ErrForm}, {strings.Repeat("x", 1<<20), api.ErrForm},
	} {
		if _, errno := newMember(t, 2, 9).Handle(proposed(1, api.Cert{}, c.command)); errno != c.want {
			t.Errorf("a command of %d bytes: %d, want %d", len(c.command), errno, c.want)
		}
	}
}

func TestP6TheSealOfAProposal(t *testing.T) {
	p := lineOf(1)[0]
	n := parley.Number(p.Block)
	for _, seal := range []uint64{
		0, p.Seal + 1, p.Seal ^ 1<<63,
		parley.Seal(2, api.Proposal, 1, n), parley.Seal(1, api.Vote, 1, n), parley.Seal(1, api.Proposal, 2, n), parley.Seal(1, api.Proposal, 1, n+1), parley.Seal(1, api.Proposal, 1, 0),
	} {
		x := p
		x.Seal = seal
		handle(t, newMember(t, 2, 9), x, api.ErrSeal)
	}
	x := p
	x.Block.Command = "other"
	handle(t, newMember(t, 2, 9), x, api.ErrSeal)
}

func TestP6TheJustIsGood(t *testing.T) {
	line := lineOf(1, 2)
	for set := range 1 << api.Members {
		m := memberThatHeard(t, 2, 9, line[0])
		d := draftOf(line[1])
		d.sealers = membersOf(set)
		if len(d.sealers) >= api.Quorum {
			hear(t, m, 2, d.message())
			wantState(t, m, 3, certFor(line[0], d.sealers...), api.Cert{})
		} else {
			handle(t, m, d.message(), api.ErrSeal)
		}
		// Of view 0 and block 0 only no seal at all, or three right ones, are good.
		d = draftOf(line[0])
		d.sealers = membersOf(set)
		if m = newMember(t, 2, 9); len(d.sealers) == 0 || len(d.sealers) >= api.Quorum {
			hear(t, m, 2, d.message())
			wantState(t, m, 2, api.Cert{}, api.Cert{})
		} else {
			handle(t, m, d.message(), api.ErrSeal)
		}
	}
}

func TestP6TheParentIsKnownAndOfTheJustsView(t *testing.T) {
	line := lineOf(1, 2, 3)
	m := memberThatHeard(t, 0, 9, line[0])
	handle(t, m, line[2], api.ErrBlock)
	for _, just := range []api.Cert{
		certBy(1, 0, 0, 1, 2), certBy(4, 0, 0, 1, 2), // the first block has view 0
		certBy(0, parley.Number(line[0].Block), 0, 1, 2), certBy(2, parley.Number(line[0].Block), 0, 1, 2),
		certBy(0, 1, 0, 1, 2), certBy(1, math.MaxUint64, 0, 1, 2), certBy(0, parley.Number(api.Block{}), 0, 1, 2),
	} {
		handle(t, m, proposed(5, just, ""), api.ErrBlock)
	}
	wantState(t, m, 2, api.Cert{}, api.Cert{})
	hear(t, m, 0, line[1], line[2])
}

func TestP6ARefusedBlockIsNotKnown(t *testing.T) {
	line := lineOf(1, 5, 6, 7)
	other := proposed(5, certFor(line[0]), "other")
	m := memberThatHeard(t, 0, 9, line[0], line[1])
	handle(t, m, other, api.ErrOld)
	handle(t, m, lineBehind(certFor(other), 6)[0], api.ErrBlock)
	bad := line[2]
	bad.Seal++
	handle(t, m, bad, api.ErrSeal)
	handle(t, m, line[3], api.ErrBlock)
	hear(t, m, 0, line[2], line[3])
}

func TestP6AVoteGoesToTheNextLeader(t *testing.T) {
	for id := range api.Members {
		for _, view := range []int{1, 2, 3, 4, 5, 6, 7, 8, 250, 998, 999, 1000} {
			p := proposed(view, api.Cert{}, "x")
			m := newMember(t, id, 9)
			m.Tick() // of member 1 the proposal of view 1 is out of the way
			handle(t, m, p, api.OK, api.Letter{To: (view + 1) % 4, Message: api.Message{
				Kind: api.Vote, From: id, View: view, Number: parley.Number(p.Block), Seal: parley.Seal(id, api.Vote, view, parley.Number(p.Block)),
			}})
			if want := min(view+1, 1000); m.View() != want {
				t.Errorf("behind view %d: view %d, want %d", view, m.View(), want)
			}
		}
	}
}

func TestP6EveryOlderProposalIsOld(t *testing.T) {
	line := lineOf(1, 2, 3, 4, 5, 6)
	m := newMember(t, 3, 9)
	for i, p := range line {
		hear(t, m, 3, p)
		for _, old := range line[:i+1] {
			handle(t, m, old, api.ErrOld)
			handle(t, m, proposed(old.View, old.Block.Just, "twin"), api.ErrOld)
		}
	}
	// Gone ahead by waiting, it takes no proposal of a view that it has left.
	m = newMember(t, 3, 1)
	m.Tick()
	handle(t, m, line[0], api.ErrOld)
	handle(t, m, line[1], api.ErrBlock)
	hear(t, m, 3, proposed(2, api.Cert{}, ""))
}

func TestP6OneVoteInTheLastView(t *testing.T) {
	m := newMember(t, 2, 9)
	one, two := proposed(1000, api.Cert{}, "one"), proposed(1000, api.Cert{}, "two")
	hear(t, m, 2, one)
	handle(t, m, one, api.ErrOld)
	handle(t, m, two, api.ErrOld)
	wantState(t, m, 1000, api.Cert{}, api.Cert{})
}

func TestP6WithoutAVoteTheLastViewGoesOn(t *testing.T) {
	line := lineOf(1, 2, 3)
	m := memberThatHeard(t, 2, 9, line...) // Locked is the certificate of view 1
	forks := []api.Message{proposed(1000, api.Cert{}, "a"), proposed(1000, api.Cert{}, "b")}
	handle(t, m, forks[0], api.OK)
	handle(t, m, forks[1], api.OK)
	handle(t, m, forks[0], api.OK)
	last := proposed(1000, certFor(line[2]), "last")
	hear(t, m, 2, last)
	handle(t, m, last, api.ErrOld)
	handle(t, m, forks[0], api.ErrOld)
	if m.View() != 1000 {
		t.Errorf("view %d", m.View())
	}
}

func TestP6VotesOnlyForWhatItsLockAllows(t *testing.T) {
	line := lineOf(1, 2, 3, 4)
	for _, c := range []struct {
		name  string
		just  api.Cert
		votes bool
	}{
		// Locked is the certificate of view 2, and the block of view 2 is its block.
		{"behind the first block", api.Cert{}, false},
		{"behind the block ahead of Locked's", certFor(line[0]), false},
		{"behind Locked's block", certFor(line[1]), true},
		{"behind Locked's block, by other seals", certFor(line[1], 1, 2, 3), true},
		{"behind the block behind Locked's", certFor(line[2]), true},
		{"two behind Locked's", certFor(line[3]), true},
	} {
		t.Log(c.name)
		m := memberThatHeard(t, 3, 9, line...)
		wantState(t, m, 5, certFor(line[2]), certFor(line[1]), "c1")
		p := proposed(9, c.just, "x")
		if c.votes {
			hear(t, m, 3, p)
		} else {
			handle(t, m, p, api.OK)
			wantState(t, m, 10, certFor(line[2]), certFor(line[1]), "c1")
		}
		wantWaited(t, m, 9, 0)
	}
}

func TestP6OfTwoBlocksOfLockedsViewItVotesBehindLockedsAlone(t *testing.T) {
	m := newMember(t, 1, 9)
	own := proposalOf(1, api.Block{View: 1})
	handle(t, m, api.Message{}, api.ErrForm, own)
	twin := proposed(1, api.Cert{}, "twin")
	hear(t, m, 1, twin) // it knows both
	hear(t, m, 1, lineBehind(certFor(own.Message), 2, 3)...)
	if m.Locked() != certFor(own.Message) {
		t.Fatalf("Locked %+v", m.Locked())
	}
	handle(t, m, proposed(6, certFor(twin), ""), api.OK)
	hear(t, m, 1, proposed(7, certFor(own.Message), ""))
	handle(t, m, proposed(8, certFor(twin), ""), api.OK)
}

func TestP6ABlockWithoutItsVoteIsKnown(t *testing.T) {
	line := lineOf(1, 2, 3, 4)
	m := memberThatHeard(t, 3, 9, line...)
	fork := proposed(6, certFor(line[0]), "fork")
	handle(t, m, fork, api.OK)
	// A certificate for it that is above Locked brings the vote back.
	hear(t, m, 3, proposed(9, certFor(fork), ""))
	wantState(t, m, 10, certFor(fork), certFor(line[1]), "c1")
}

func TestP6AProposalEndsTheWaiting(t *testing.T) {
	for _, patience := range []int{2, 3, api.MaxPatience} {
		m := newMember(t, 3, patience)
		for range patience - 1 {
			m.Tick()
		}
		hear(t, m, 3, lineOf(1)...)
		wantWaited(t, m, patience, 0)
		m = newMember(t, 3, patience)
		for range patience - 1 {
			m.Tick()
		}
		handle(t, m, proposed(1, certBy(0, 1, 0, 1, 2), ""), api.ErrBlock)
		wantWaited(t, m, patience, patience-1)
	}
}

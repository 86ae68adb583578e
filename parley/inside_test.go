package parley

import (
	"maps"
	"math/bits"
	"math/rand"
	"reflect"
	"slices"
	"testing"

	"parley/api"
)

// These tests stand inside the package: they put a member where calls alone can
// hardly bring it, and look at what it does not tell.

func memberInside(t *testing.T, id, patience int) *Member {
	t.Helper()
	m, errno := New(id, patience)
	if errno != api.OK {
		t.Fatalf("New(%d, %d) = %d", id, patience, errno)
	}
	return m
}

func certInside(view int, block uint64) api.Cert {
	c := api.Cert{View: view, Block: block}
	for i := range api.Quorum {
		c.Seals[i] = Seal(i, api.Vote, view, block)
	}
	return c
}

func enterInside(id, view int, high api.Cert) api.Letter {
	return api.Letter{To: view % 4, Message: api.Message{Kind: api.Enter, From: id, View: view, Cert: high, Seal: Seal(id, api.Enter, view, 0)}}
}

func proposalInside(id int, b api.Block) api.Letter {
	return api.Letter{To: -1, Message: api.Message{Kind: api.Proposal, From: id, View: b.View, Block: b, Seal: Seal(id, api.Proposal, b.View, Number(b))}}
}

func wantInside(t *testing.T, got []api.Letter, want ...api.Letter) {
	t.Helper()
	if !slices.Equal(got, want) {
		t.Fatalf("sent %+v, want %+v", got, want)
	}
}

func TestP3TellsHighLockedAndLog(t *testing.T) {
	m := memberInside(t, 0, 10)
	m.high, m.locked = certInside(7, 70), certInside(6, 60)
	if m.High() != certInside(7, 70) || m.Locked() != certInside(6, 60) {
		t.Errorf("High %v, Locked %v", m.High(), m.Locked())
	}
	for view, command := range []string{"unused", "old", "", "new"} {
		b := api.Block{View: view, Command: command}
		m.know(b)
		if view > 0 {
			m.log = append(m.log, Number(b))
		}
	}
	want := []string{"old", "", "new"}
	log := m.Log()
	if !slices.Equal(log, want) {
		t.Fatalf("Log %q, want %q", log, want)
	}
	log = log[:cap(log)]
	for i := range log {
		log[i] = "no"
	}
	if !slices.Equal(m.Log(), want) {
		t.Errorf("after its answer was changed: Log %q, want %q", m.Log(), want)
	}
}

func TestTheFirstBlockIsKnownFromTheBeginning(t *testing.T) {
	m := memberInside(t, 0, 1)
	if b, known := m.blocks[0]; !known || b != (api.Block{}) || len(m.blocks) != 1 {
		t.Errorf("known are %v", m.blocks)
	}
}

func TestP4EnterTellsHigh(t *testing.T) {
	for view := 1; view < 9; view++ {
		m := memberInside(t, 2, 1)
		m.view, m.high, m.locked = view, certInside(5, 50), certInside(4, 40)
		letters := m.Tick()
		if len(letters) == 0 || letters[0] != enterInside(2, view+1, m.high) {
			t.Errorf("in view %d: %+v", view, letters)
		}
	}
}

func TestP4EntersThenProposesInOneTick(t *testing.T) {
	for id := range api.Members {
		view := 8 + id
		m := memberInside(t, id, 1)
		m.Submit("x")
		m.view, m.high, m.locked = view-1, certInside(view-1, 77), certInside(3, 30)
		wantInside(t, m.Tick(), enterInside(id, view, m.high), proposalInside(id, api.Block{View: view, Just: m.high, Command: "x"}))
	}
}

func TestP4ProposesOnlyRightBehindHigh(t *testing.T) {
	for high := range 12 {
		for view := 1; view <= 12; view++ {
			for id := range api.Members {
				m := memberInside(t, id, 2)
				m.view, m.high = view, certInside(high, 7)
				letters := m.Tick()
				if id == view%4 && high == view-1 {
					wantInside(t, letters, proposalInside(id, api.Block{View: view, Just: m.high}))
				} else {
					wantInside(t, letters)
				}
			}
		}
	}
}

func TestP4ProposesWithAQuorumOfEnters(t *testing.T) {
	for set := range 1 << api.Members {
		for _, id := range []int{1, 2} {
			m := memberInside(t, id, 2)
			m.view = 5
			var record viewRecord
			for i := range api.Members {
				record.entered[i] = set>>i&1 == 1
			}
			m.views[5] = record
			letters := m.Tick()
			if id == 1 && bits.OnesCount(uint(set)) >= api.Quorum {
				wantInside(t, letters, proposalInside(1, api.Block{View: 5}))
				wantInside(t, m.Tick(), enterInside(1, 6, api.Cert{}))
			} else {
				wantInside(t, letters)
			}
		}
	}
}

func TestP4EntersOfAnotherViewDoNotCount(t *testing.T) {
	m := memberInside(t, 1, 1)
	m.view = 8
	m.views[9] = viewRecord{entered: [api.Members]bool{true, false, true, true}}
	m.views[13] = m.views[9]
	wantInside(t, m.Tick(), enterInside(1, 9, api.Cert{}), proposalInside(1, api.Block{View: 9}))
	wantInside(t, m.Tick(), enterInside(1, 10, api.Cert{}))
	if _, kept := m.views[9]; kept || !m.views[13].entered.full() {
		t.Errorf("of views are kept %v", m.views)
	}
}

func TestP4ProposesInTheLastViewToo(t *testing.T) {
	m := memberInside(t, 0, 2)
	m.Submit("end")
	m.view, m.high = api.MaxView, certInside(api.MaxView-1, 5)
	wantInside(t, m.Tick(), proposalInside(0, api.Block{View: api.MaxView, Just: m.high, Command: "end"}))
	for range 9 {
		wantInside(t, m.Tick())
	}
}

func TestP4EachProposalTakesTheNextCommand(t *testing.T) {
	m := memberInside(t, 1, 1)
	for _, command := range []string{"a", "", "c"} {
		m.Submit(command)
	}
	for i, want := range []string{"a", "", "c", "", ""} {
		view := 5 + 4*i
		m.view, m.high = view-1, certInside(view-1, 9)
		wantInside(t, m.Tick(), enterInside(1, view, m.high), proposalInside(1, api.Block{View: view, Just: m.high, Command: want}))
	}
}

func TestAProposedBlockIsKnown(t *testing.T) {
	m := memberInside(t, 1, 2)
	m.Submit("x")
	m.Tick()
	b := api.Block{View: 1, Command: "x"}
	if got, known := m.blocks[Number(b)]; !known || got != b || len(m.blocks) != 2 {
		t.Errorf("known are %v", m.blocks)
	}
}

func TestTheFirstBlockOfANumberStays(t *testing.T) {
	m := memberInside(t, 1, 2)
	first := api.Block{View: 5, Just: certInside(4, 40), Command: "x"}
	later := first
	later.Just.Seals[3] = Seal(3, api.Vote, 4, 40)
	m.know(first)
	m.know(later)
	if m.blocks[Number(first)] != first {
		t.Error("a later block of the same number took the first one's place")
	}
}

// copyOf shares nothing with the member that could change.
func copyOf(m *Member) *Member {
	other := *m
	other.queue = slices.Clone(m.queue)
	other.log = slices.Clone(m.log)
	other.blocks = maps.Clone(m.blocks)
	other.votes = maps.Clone(m.votes)
	other.views = maps.Clone(m.views)
	return &other
}

// someMessage makes a message that is right in most of its parts.
func someMessage(r *rand.Rand, m *Member) api.Message {
	numbers := slices.Sorted(maps.Keys(m.blocks))
	number := numbers[r.Intn(len(numbers))]
	block := m.blocks[number]
	if r.Intn(20) == 0 {
		number++
	}
	cert := certInside(block.View, number)
	if number == firstBlock {
		cert = api.Cert{}
	}
	x := api.Message{Kind: 1 + r.Intn(3), From: r.Intn(4), View: m.view + r.Intn(5) - 1}
	if r.Intn(9) == 0 {
		x.View = block.View
	}
	if r.Intn(20) == 0 {
		cert.Seals[r.Intn(4)]++
	}
	switch x.Kind {
	case api.Proposal:
		x.From = leader(x.View)
		x.Block = api.Block{View: x.View, Just: cert, Command: "x"}
		number = Number(x.Block)
	case api.Vote:
		x.View, x.Number = block.View, number
	case api.Enter:
		x.Cert = cert
		number = 0
	}
	x.Seal = Seal(x.From, x.Kind, x.View, number)
	if r.Intn(20) == 0 {
		x.Seal++
	}
	return x
}

func TestP1ARefusedMessageChangesNothing(t *testing.T) {
	var seen [api.ErrFull]int
	for seed := range int64(60) {
		r := rand.New(rand.NewSource(seed))
		m := memberInside(t, int(seed%4), 3)
		m.Tick()
		for range 300 {
			if r.Intn(20) == 0 {
				m.Tick()
			}
			x := someMessage(r, m)
			before := copyOf(m)
			letters, errno := m.Handle(x)
			seen[errno]++
			if errno != api.OK && (len(letters) != 0 || !reflect.DeepEqual(m, before)) {
				t.Fatalf("Handle(%+v) = %+v, %d, and the member is %+v, was %+v", x, letters, errno, m, before)
			}
		}
	}
	for errno, times := range seen {
		if times < 20 {
			t.Errorf("the answer %d came only %d times", errno, times)
		}
	}
}

// A view that is ahead of the block's own, as P7 has it, is never met: whoever
// knows a block of another's is beyond its view.
func TestP7TheThirdVoteEntersTheViewBehindIfItIsNotThere(t *testing.T) {
	for _, view := range []int{1, 4, 5, 6} {
		m := memberInside(t, 2, 9)
		block := api.Block{View: 5, Command: "x"}
		m.know(block)
		m.view, m.waited = view, 3
		for from := range api.Quorum {
			if m.view != view || m.waited != 3 {
				t.Fatalf("after %d votes in view %d: view %d, %d waited", from, view, m.view, m.waited)
			}
			x := api.Message{Kind: api.Vote, From: from, View: 5, Number: Number(block), Seal: Seal(from, api.Vote, 5, Number(block))}
			if _, errno := m.Handle(x); errno != api.OK {
				t.Fatalf("in view %d: %d", view, errno)
			}
		}
		waited := 0
		if view == 6 {
			waited = 3
		}
		if m.view != 6 || m.waited != waited || m.high != certInside(5, Number(block)) {
			t.Errorf("in view %d: view %d, %d waited, High %+v", view, m.view, m.waited, m.high)
		}
	}
}

func TestNothingIsKeptOfWhatIsOld(t *testing.T) {
	m := memberInside(t, 2, 9)
	for _, view := range []int{2, 6, 10} {
		m.views[view] = viewRecord{proposed: true}
	}
	numbers := map[int]uint64{}
	for _, view := range []int{1, 5, 9} {
		block := api.Block{View: view}
		m.know(block)
		numbers[view] = Number(block)
		m.votes[Number(block)] = roll{true}
	}
	m.enter(6)
	if len(m.views) != 2 || len(m.votes) != 2 || m.votes[numbers[5]] != (roll{true}) {
		t.Errorf("in view 6 are kept %v and %v", m.views, m.votes)
	}
	m.learn(certInside(5, numbers[5]))
	if len(m.votes) != 1 || m.votes[numbers[9]] != (roll{true}) {
		t.Errorf("with High of view 5 are kept %v", m.votes)
	}
	m.enter(11)
	if len(m.views) != 0 || len(m.votes) != 0 || len(m.blocks) != 4 {
		t.Errorf("in view 11 are kept %v, %v and %v", m.views, m.votes, m.blocks)
	}
}

func TestTheAncestorsOfABlock(t *testing.T) {
	m := memberInside(t, 0, 9)
	just := api.Cert{}
	line := []uint64{firstBlock}
	for view := 1; view <= 5; view++ {
		block := api.Block{View: view, Just: just}
		m.know(block)
		line = append(line, Number(block))
		just = certInside(view, Number(block))
	}
	for i, number := range line {
		want := slices.Clone(line[:i])
		slices.Reverse(want)
		ahead := m.ahead(number)
		for range 2 { // it can be gone through again
			if got := slices.Collect(ahead); !slices.Equal(got, want) {
				t.Errorf("ahead of block %d are %v, want %v", i, got, want)
			}
		}
		for j, other := range line {
			if m.isAhead(other, number) != (j < i) {
				t.Errorf("block %d ahead of block %d: %v", j, i, j >= i)
			}
		}
	}
	met := 0
	for range m.ahead(line[5]) {
		if met++; met == 2 {
			break
		}
	}
	if met != 2 {
		t.Errorf("left after %d", met)
	}
}

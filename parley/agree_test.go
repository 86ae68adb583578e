package parley_test

import (
	"fmt"
	"math/rand"
	"slices"
	"testing"

	"parley/api"
	"parley/parley"
)

// post is four members, and the letters between them in the order of sending.
type post struct {
	t       *testing.T
	members [api.Members]*parley.Member
	letters []api.Letter
}

func newPost(t *testing.T, patience int) *post {
	p := &post{t: t}
	for id := range p.members {
		p.members[id] = newMember(t, id, patience)
	}
	return p
}

func (p *post) tick() {
	for _, m := range p.members {
		p.letters = append(p.letters, m.Tick()...)
	}
}

// deliver brings the oldest letter to whom it is sent.
func (p *post) deliver(heard func(id int, letter api.Letter)) {
	letter := p.letters[0]
	p.letters = p.letters[1:]
	for id, m := range p.members {
		if letter.To != id && letter.To != -1 {
			continue
		}
		letters, _ := m.Handle(letter.Message)
		p.letters = append(p.letters, letters...)
		heard(id, letter)
	}
}

func TestP8FourInOrderCommitABlockAView(t *testing.T) {
	p := newPost(t, api.MaxPatience)
	var next [api.Members]int
	fill := func() {
		for id, m := range p.members {
			for m.Submit(fmt.Sprint(id, ":", next[id])) == api.OK {
				next[id]++
			}
		}
	}
	fill()
	p.tick()
	for len(p.letters) > 0 {
		p.deliver(func(id int, letter api.Letter) {
			if letter.Kind != api.Proposal {
				return
			}
			m, want := p.members[id], max(0, letter.View-3)
			if len(m.Log()) != want || m.View() != min(letter.View+1, api.MaxView) || m.High().View != letter.View-1 {
				t.Fatalf("member %d behind the proposal of view %d: %d blocks in its log, view %d, High of view %d", id, letter.View, len(m.Log()), m.View(), m.High().View)
			}
		})
		fill()
	}
	for id, m := range p.members {
		log := m.Log()
		if len(log) != api.MaxView-3 || m.View() != api.MaxView {
			t.Fatalf("member %d ends in view %d with %d blocks in its log", id, m.View(), len(log))
		}
		for i, command := range log {
			view := i + 1
			if want := fmt.Sprint(view%4, ":", (view-1)/4); command != want {
				t.Fatalf("member %d has %q of view %d in its log, want %q", id, command, view, want)
			}
		}
	}
}

func TestP8AfterASilenceTheyCommitAgain(t *testing.T) {
	const patience = 3
	for start := 0; start < 40; start += 3 {
		for _, silent := range []int{1, 2, 3, 4, 9, 30} {
			p := newPost(t, patience)
			p.tick()
			for range start {
				p.deliver(func(int, api.Letter) {})
			}
			before := len(p.members[0].Log())
			for range silent {
				p.tick()
				p.letters = nil
			}
			for range 30 {
				p.tick()
				for i := 0; i < 50 && len(p.letters) > 0; i++ {
					p.deliver(func(int, api.Letter) {})
				}
			}
			for id, m := range p.members {
				log := m.Log()
				if len(log) < before+20 || !slices.Equal(log[:before+20], p.members[0].Log()[:before+20]) {
					t.Fatalf("silent for %d ticks behind %d letters: member %d had %d blocks in its log, and has %d", silent, start, id, before, len(log))
				}
			}
		}
	}
}

func TestP8ALiarCannotSplitTheLogs(t *testing.T) {
	// Member 0 lies. Views 1 to 3 go well, but only member 3 hears the certificate
	// of view 3, and commits. To 1 and 2 the liar proposes a branch beside that.
	line := lineOf(1, 2, 3, 4)
	members := map[int]*parley.Member{}
	for _, id := range []int{1, 2, 3} {
		members[id] = newMember(t, id, 9)
		members[id].Tick()
		hear(t, members[id], id, line[:3]...)
	}
	hear(t, members[3], 3, line[3])
	wantState(t, members[3], 5, certFor(line[2]), certFor(line[1]), "c1")
	for _, id := range []int{1, 2} {
		for _, fork := range []api.Message{proposed(4, api.Cert{}, "fork"), proposed(8, api.Cert{}, "fork")} {
			handle(t, members[id], fork, api.OK) // no vote
		}
		hear(t, members[id], id, proposed(12, certFor(line[0]), "good"))
	}
}

// game is three members that keep to the document and one that lies. The liar
// hears all that is sent, and seals whatever it likes with its own name.
type game struct {
	t       *testing.T
	r       *rand.Rand
	liar    int
	lies    int                         // how many of a hundred steps are the liar's
	members [api.Members]*parley.Member // the liar's place is empty
	inbox   [api.Members][]api.Message
	voted   [api.Members]map[int]bool // the views
	sent    []api.Message
	blocks  []api.Message // what was proposed
	seals   map[uint64]api.Cert
	certs   []api.Cert
	names   int
}

func newGame(t *testing.T, seed int64) *game {
	r := rand.New(rand.NewSource(seed))
	g := &game{t: t, r: r, liar: int(seed % 4), lies: 2 + r.Intn(10), seals: map[uint64]api.Cert{}, certs: []api.Cert{{}}}
	for id := range g.members {
		g.voted[id] = map[int]bool{}
		if id != g.liar {
			g.members[id] = newMember(t, id, 3+r.Intn(3))
		}
	}
	return g
}

// name gives a command that no other block has: so logs differ where blocks do.
func (g *game) name() string {
	g.names++
	return fmt.Sprint("n", g.names)
}

func (g *game) honest() int { return (g.liar + 1 + g.r.Intn(3)) % api.Members }

// oneOf picks one of the last few.
func oneOf[T any](r *rand.Rand, all []T, few int) T { return all[max(0, len(all)-1-r.Intn(few))] }

func (g *game) send(letters []api.Letter) {
	for _, letter := range letters {
		x := letter.Message
		if x.Kind == api.Vote {
			if g.voted[x.From][x.View] {
				g.t.Fatalf("member %d votes twice in view %d", x.From, x.View)
			}
			g.voted[x.From][x.View] = true
		}
		g.sent = append(g.sent, x)
		g.note(x)
		for id := range g.inbox {
			if letter.To == id || letter.To == -1 {
				g.inbox[id] = append(g.inbox[id], x)
			}
		}
	}
}

// note keeps what the liar can use: blocks, and votes that make certificates
// together with its own.
func (g *game) note(x api.Message) {
	if x.Kind == api.Proposal {
		g.blocks = append(g.blocks, x)
	}
	if x.Kind != api.Vote {
		return
	}
	cert, begun := g.seals[x.Number]
	if !begun {
		cert = certBy(x.View, x.Number, g.liar)
	}
	cert.Seals[x.From] = x.Seal
	g.seals[x.Number] = cert
	if parley.Good(cert) {
		g.certs = append(g.certs, cert)
	}
}

// lie makes one message of the liar, for some of the others.
func (g *game) lie() {
	near := g.members[g.honest()].View()
	cert := oneOf(g.r, g.certs, 1+g.r.Intn(6))
	var x api.Message
	switch dice := g.r.Intn(4); {
	case dice < 2:
		for near%4 != g.liar {
			near++
		}
		x = proposalOf(g.liar, api.Block{View: near, Just: cert, Command: g.name()}).Message
	case dice == 2 && len(g.blocks) > 0:
		x = voteFor(g.liar, oneOf(g.r, g.blocks, 6))
	default:
		x = entering(g.liar, near+g.r.Intn(5), cert)
	}
	if g.r.Intn(8) > 0 {
		g.note(x)
	} else {
		x.From = g.honest() // under the liar's seal
	}
	toSome := g.r.Intn(2) == 0
	for id := range g.inbox {
		if !toSome || g.r.Intn(2) == 0 {
			g.inbox[id] = append(g.inbox[id], x)
		}
	}
}

// step lets one thing happen: mostly, that a member hears one of its oldest messages.
func (g *game) step() {
	id := g.honest()
	m := g.members[id]
	m.Submit(g.name())
	switch dice := g.r.Intn(100); {
	case dice < g.lies:
		g.lie()
	case dice < g.lies+1:
		g.send(m.Tick())
	case dice < g.lies+3 && len(g.sent) > 0:
		g.hear(id, oneOf(g.r, g.sent, 30))
	case len(g.inbox[id]) > 0:
		i := min(g.r.Intn(len(g.inbox[id])), g.r.Intn(2)*g.r.Intn(2)*g.r.Intn(3))
		x := g.inbox[id][i]
		g.inbox[id] = slices.Delete(g.inbox[id], i, i+1)
		g.hear(id, x)
	case dice > 90:
		g.send(m.Tick())
	}
}

func (g *game) hear(id int, x api.Message) {
	letters, _ := g.members[id].Handle(x)
	g.send(letters)
	log := g.members[id].Log()
	for other, m := range g.members {
		if m == nil {
			continue
		}
		theirs := m.Log()
		if n := min(len(log), len(theirs)); !slices.Equal(log[:n], theirs[:n]) {
			g.t.Fatalf("members %d and %d: %q and %q", id, other, log, theirs)
		}
	}
}

func (g *game) longest() int {
	longest := 0
	for _, m := range g.members {
		if m != nil {
			longest = max(longest, len(m.Log()))
		}
	}
	return longest
}

// forked tells whether two blocks behind one parent were certified.
func (g *game) forked() bool {
	certified := map[uint64]bool{}
	for _, cert := range g.certs {
		certified[cert.Block] = true
	}
	child := map[uint64]uint64{}
	for _, x := range g.blocks {
		number, parent := parley.Number(x.Block), x.Block.Just.Block
		if !certified[number] {
			continue
		}
		if other, has := child[parent]; has && other != number {
			return true
		}
		child[parent] = number
	}
	return false
}

func TestP8WithOneLiarTheLogsAgree(t *testing.T) {
	const games = 2000
	committed, forked := 0, 0
	for seed := range int64(games) {
		g := newGame(t, seed)
		for range 400 {
			g.step()
		}
		if g.longest() > 0 {
			committed++
			if g.forked() {
				forked++
			}
		}
	}
	if committed < games/4 || forked < games/10 {
		t.Errorf("of %d games %d committed something, %d of them beside a fork: too few to tell", games, committed, forked)
	}
}

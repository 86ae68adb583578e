// Package parley: four who agree on one log, though one of them lies: see DOC.md.
package parley

import (
	"strconv"

	"parley/api"
)

// Seal tells a member's seal (P2).
func Seal(member int, kind int, view int, number uint64) uint64 {
	return hashOfWords("member", strconv.Itoa(member), strconv.Itoa(kind), strconv.Itoa(view), strconv.FormatUint(number, 10))
}

// Number tells a block's number (P2). Of the Just only its Block counts: blocks
// of one view, one parent and one command are one block, whoever sealed for it.
func Number(b api.Block) uint64 {
	return hashOfWords(strconv.Itoa(b.View), strconv.FormatUint(b.Just.Block, 10), b.Command)
}

// Good tells whether a certificate is good (P2).
func Good(c api.Cert) bool {
	// The first certificate is good without a vote: nobody voted for the first block.
	return c == api.Cert{} || rightSeals(c) >= api.Quorum
}

func rightSeals(c api.Cert) int {
	right := 0
	for member, seal := range c.Seals {
		if seal == Seal(member, api.Vote, c.View, c.Block) {
			right++
		}
	}
	return right
}

// New makes a member (P3).
func New(member int, patience int) (*Member, api.Errno) {
	if !isMember(member) || patience < 1 || patience > api.MaxPatience {
		return nil, api.ErrForm
	}
	return &Member{
		id:       member,
		patience: patience,
		view:     1,
		// The first block's number is 0 by definition, not by its text.
		blocks: map[uint64]api.Block{firstBlock: {}},
		votes:  map[uint64]roll{},
		views:  map[int]viewRecord{},
	}, api.OK
}

// Submit takes a command (P3).
func (m *Member) Submit(command string) api.Errno {
	if len(command) > api.MaxCommand {
		return api.ErrForm
	}
	if len(m.queue) >= api.MaxQueue {
		return api.ErrFull
	}
	m.queue = append(m.queue, command)
	return api.OK
}

// Tick lets time go by (P4).
func (m *Member) Tick() (letters []api.Letter) {
	sent := newOutbox()
	defer sent.takeAll(&letters)
	m.wait(sent)
	m.propose(sent)
	return nil
}

// Handle takes a message (P5).
func (m *Member) Handle(message api.Message) (letters []api.Letter, errno api.Errno) {
	sent := newOutbox()
	defer sent.takeAll(&letters)
	errno = m.take(message, sent)
	m.propose(sent)
	return nil, errno
}

// View tells the view (P3).
func (m *Member) View() int { return m.view }

// High tells the highest certificate (P3).
func (m *Member) High() api.Cert { return m.high }

// Locked tells the certificate on which it is locked (P3).
func (m *Member) Locked() api.Cert { return m.locked }

// Log tells the log (P3).
func (m *Member) Log() []string {
	commands := make([]string, 0, len(m.log))
	for _, number := range m.log {
		commands = append(commands, m.blocks[number].Command)
	}
	return commands
}

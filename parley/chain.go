package parley

import (
	"iter"
	"slices"

	"parley/api"
)

const firstBlock = 0

// know keeps the first of the blocks of one number: a later one may have another Just.
func (m *Member) know(block api.Block) {
	number := Number(block)
	if _, known := m.blocks[number]; !known {
		m.blocks[number] = block
	}
}

func (m *Member) knows(number uint64, view int) bool {
	block, known := m.blocks[number]
	return known && block.View == view
}

// ahead gives the numbers of the blocks ahead of one, its parent first and the
// first block last. It ends: a block is known only with a known parent of a lower view.
func (m *Member) ahead(number uint64) iter.Seq[uint64] {
	return func(yield func(uint64) bool) {
		for at := number; at != firstBlock; {
			at = m.blocks[at].Just.Block
			if !yield(at) {
				return
			}
		}
	}
}

func (m *Member) isAhead(number, of uint64) bool {
	for at := range m.ahead(of) {
		if at == number {
			return true
		}
	}
	return false
}

// learn takes in a good certificate whose block is known.
func (m *Member) learn(cert api.Cert) {
	if cert.View > m.high.View {
		m.high = cert
		m.forget()
	}
	if just := m.blocks[cert.Block].Just; just.View > m.locked.View {
		m.locked = just
	}
	if number, settled := m.settledBy(cert.Block); settled {
		m.commit(number)
	}
}

// settledBy gives the block two ahead of a certified one, if the views of the
// three follow one another. The first block is agreed on without that.
func (m *Member) settledBy(number uint64) (settled uint64, found bool) {
	view, steps := m.blocks[number].View, 0
	for at := range m.ahead(number) {
		view--
		steps++
		if m.blocks[at].View != view {
			break
		}
		if steps == 2 {
			return at, at != firstBlock
		}
	}
	return 0, false
}

// commit puts a block and those ahead of it behind the log's last one. Where that
// is not ahead of the block (the block is in the log already, or on another
// branch) there is nothing to put.
func (m *Member) commit(number uint64) {
	last := m.lastOfLog()
	added := []uint64{number}
	for at := range m.ahead(number) {
		if at == last {
			slices.Reverse(added)
			m.log = append(m.log, added...)
			return
		}
		added = append(added, at)
	}
}

// lastOfLog is the first block for an empty log: all chains begin behind it.
func (m *Member) lastOfLog() uint64 {
	if len(m.log) == 0 {
		return firstBlock
	}
	return m.log[len(m.log)-1]
}

package parley

import "parley/api"

const toAll = -1

// A call sends one letter of its own (an Enter or a Vote) and one proposal at
// the most: with this room a send never waits.
const outboxRoom = 2

// outbox holds what is sent within one call, in order.
type outbox chan api.Letter

func newOutbox() outbox { return make(outbox, outboxRoom) }

// takeAll is deferred by the calls that send, so that each way out of them tells
// all that was sent.
func (o outbox) takeAll(letters *[]api.Letter) {
	for {
		select {
		case letter := <-o:
			*letters = append(*letters, letter)
		default:
			return
		}
	}
}

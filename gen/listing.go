package gen

import "plunder/api"

// listing is code that is being written.
type listing struct{ code []api.Instr }

// put writes instructions behind the others, and tells the place of the last one.
func (l *listing) put(more ...api.Instr) int {
	l.code = append(l.code, more...)
	return len(l.code) - 1
}

// next is the place of what is written next.
func (l *listing) next() int { return len(l.code) }

// land lets jumps and branches that stand at these places go to what is written next. They were put ahead of it, when nobody knew where that would be.
func (l *listing) land(places ...int) {
	for _, at := range places {
		if l.code[at].Kind == api.IJump {
			l.code[at].A = l.next()
		} else {
			l.code[at].B = l.next()
		}
	}
}

// unknown stands for the place that a jump goes to, until it lands.
const unknown = 0

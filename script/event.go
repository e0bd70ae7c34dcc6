package script

import "bowsprit/api"

// kindWords are the words of the Kinds of events.
var kindWords = [...]string{
	api.EvSubmit: "submit",
	api.EvCancel: "cancel",
	api.EvTick:   "tick",
	api.EvCome:   "come",
	api.EvLose:   "lose",
	api.EvDrop:   "drop",
	api.EvTwin:   "twin",
	api.EvSpoil:  "spoil",
	api.EvRounds: "rounds",
}

// wordOf is a Kind's word, and nothing of what is none.
func wordOf(kind int) string {
	if kind < 0 || kind >= len(kindWords) {
		return ""
	}
	return kindWords[kind]
}

// kindOf is the Kind of a word, and 0, which is none, of a word of none.
func kindOf(word string) int {
	for kind, w := range kindWords {
		if w == word {
			return kind
		}
	}
	return 0
}

// numbersOf are the numbers that count of an event, in the order of its line. What is below 0 is greater there than any may be.
func numbersOf(e api.Event) []uint64 {
	switch e.Kind {
	case api.EvCancel:
		return []uint64{uint64(e.Epoch)}
	case api.EvTick:
		return []uint64{uint64(e.Node)}
	case api.EvCome, api.EvLose, api.EvTwin:
		return []uint64{e.Num}
	case api.EvDrop:
		return []uint64{uint64(e.Node), uint64(e.To)}
	case api.EvSpoil:
		return []uint64{e.Num, uint64(e.At), uint64(e.By)}
	case api.EvRounds:
		return []uint64{uint64(e.At)}
	}
	return nil
}

// greatest are the greatest numbers that an event of a Kind may have, in the order of its line.
func greatest(kind int) []uint64 {
	const most, num = api.MaxNumber, api.MaxSent + 1
	switch kind {
	case api.EvCancel, api.EvTick:
		return []uint64{most}
	case api.EvCome, api.EvLose, api.EvTwin:
		return []uint64{num}
	case api.EvDrop:
		return []uint64{most, most}
	case api.EvSpoil:
		return []uint64{num, most, 255}
	case api.EvRounds:
		return []uint64{api.MaxFair}
	}
	return nil
}

// areNumbers tells whether an event of a Kind may have these numbers, in the order of its line.
func areNumbers(kind int, l []uint64) bool {
	most := greatest(kind)
	if len(l) != len(most) {
		return false
	}
	for k, n := range l {
		if n > most[k] {
			return false
		}
	}
	return true
}

// eventOf is the event of a Kind that has these numbers, which it may have; the text counts of EvSubmit alone.
func eventOf(kind int, text string, l []uint64) api.Event {
	e := api.Event{Kind: kind}
	switch kind {
	case api.EvSubmit:
		e.Text = text
	case api.EvCancel:
		e.Epoch = int(l[0])
	case api.EvTick:
		e.Node = int(l[0])
	case api.EvCome, api.EvLose, api.EvTwin:
		e.Num = l[0]
	case api.EvDrop:
		e.Node, e.To = int(l[0]), int(l[1])
	case api.EvSpoil:
		e.Num, e.At, e.By = l[0], int(l[1]), byte(l[2])
	case api.EvRounds:
		e.At = int(l[0])
	}
	return e
}

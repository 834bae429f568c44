package driver

import "tramway/api"

// mail is what a full mailbox has. The field is kept beside the frame, as each change of the heap asks for it several times.
type mail struct {
	frame  api.Frame
	field  string
	ticket int
}

// mailboxes are the full ones, as a heap: the frame to be sent next lies first.
type mailboxes []mail

func (l mailboxes) Len() int { return len(l) }

// Less follows frame.First: of two fields the lesser text comes first on a wire.
func (l mailboxes) Less(i, j int) bool {
	if l[i].field != l[j].field {
		return l[i].field < l[j].field
	}
	return l[i].ticket < l[j].ticket
}

func (l mailboxes) Swap(i, j int) { l[i], l[j] = l[j], l[i] }

func (l *mailboxes) Push(x any) { *l = append(*l, x.(mail)) }

// Pop takes out the last one, and leaves nothing of it behind.
func (l *mailboxes) Pop() any {
	last := len(*l) - 1
	m := (*l)[last]
	(*l)[last] = mail{}
	*l = (*l)[:last]
	return m
}

package world

import "mizzen/api"

// carrier brings what is sent: a world that was checked, its own copy, and how many numbers went.
type carrier struct {
	api.World
	went int
}

// carry what each machine has sent to the next one. What comes into an In is in no Out, so that nothing goes on twice.
func (c *carrier) carry() {
	for from := range c.Machines {
		to := (from + 1) % len(c.Machines)
		sent := c.Machines[from].Out
		many := min(len(sent), c.room(to))
		c.hand(to, sent[:many]...)
		c.Machines[from].Out = sent[many:]
	}
}

// room for so many numbers more.
func (c *carrier) room(to int) int {
	return api.MaxBox - len(c.Machines[to].In)
}

// hand numbers, for which there is room, to a machine. One that waits has something to take then.
func (c *carrier) hand(to int, l ...int) {
	m := &c.Machines[to]
	m.In = append(m.In, l...)
	if m.Status == api.Waiting && len(l) > 0 {
		m.Status = api.Running
	}
	c.went += len(l)
}

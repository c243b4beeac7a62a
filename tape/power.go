package tape

import "flurry/api"

// Arm lets the power go ahead of some byte, Calm takes that back, Crash lets it go now, Restart lets it come back, On tells whether it is there.
func (t *Tape) Arm(n int) api.Errno {
	if err := t.ready(); err != api.OK {
		return err
	}
	if n < 0 {
		return api.ErrArg
	}
	t.armed, t.left = true, n
	return api.OK
}

func (t *Tape) Calm() api.Errno {
	if err := t.ready(); err != api.OK {
		return err
	}
	t.disarm()
	return api.OK
}

func (t *Tape) Crash() api.Errno {
	if err := t.ready(); err != api.OK {
		return err
	}
	t.goDark()
	return api.OK
}

func (t *Tape) Restart() api.Errno {
	switch {
	case !t.known():
		return api.ErrMade
	case t.on:
		return api.ErrBusy
	}
	t.on = true
	return api.OK
}

func (t *Tape) On() bool { return t.known() && t.on }

// goDark lets the power go; what was armed has come about with that, or is forgotten.
func (t *Tape) goDark() {
	t.on = false
	t.disarm()
}

func (t *Tape) disarm() { t.armed, t.left = false, 0 }

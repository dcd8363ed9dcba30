package inflate

import "valise/api"

// fault is what a broken text is given up with. Its type is known here alone, so that no other panic is taken for one.
type fault struct{ reason api.Errno }

// giveUp ends the reading of a broken text, however deep inside.
func giveUp(reason api.Errno) { panic(fault{reason}) }

// caught runs what may give up, and answers the error that it gave up with. Any other panic goes on.
func caught(run func()) (e api.Errno) {
	defer func() {
		switch v := recover().(type) {
		case nil:
		case fault:
			e = v.reason
		default:
			panic(v)
		}
	}()
	run()
	return api.OK
}

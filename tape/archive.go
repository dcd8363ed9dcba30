package tape

import (
	"strings"

	"valise/api"
	"valise/valise"
)

const modes = 65536 // an archive keeps so many modes, and of a greater one what is left of it

// refusal tells why an archive's entries can't stand on a tape. It lets all of them be verified ahead of any that is read to be kept: their texts may be far longer together than a tape.
func refusal(v *valise.Valise, infos []api.Info) error {
	damaged, err := v.Verify()
	if err != nil {
		return err
	}
	size := endBytes
	for _, x := range infos {
		if len(damaged) > 0 && damaged[0] == x.Name {
			_, err := v.Read(x.Name)
			return err
		}
		if !sound(fileOf(x), x.Size) {
			return fault("export", x.Name, api.ErrTapeField)
		}
		size += entryBytes(x.Size)
	}
	if size > api.MaxCapacity {
		return fault("export", "", api.ErrArg)
	}
	return nil
}

// fileOf is an entry as a file, without its data.
func fileOf(x api.Info) api.File {
	f := api.File{Name: x.Name, Mode: x.Mode, Time: secondsOf(x.Stamp)}
	if strings.HasSuffix(x.Name, "/") {
		f.Kind = kindFolder
	}
	return f
}

// howOf tells how a file is added, where the tape doesn't say it as how says.
func howOf(f api.File, how api.How) api.How {
	how.Mode = f.Mode % modes
	how.Stamp = stampAt(f.Time)
	return how
}

// fault tells the error of a call that has a reason to refuse, and the nil interface where there is none.
func fault(call, name string, reason api.Errno) error {
	if reason == api.OK {
		return nil
	}
	return &api.Fault{Call: call, Name: name, Reason: reason}
}

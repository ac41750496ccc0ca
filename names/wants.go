package names

import "warp/api"

// local is the kind of what no declaration made.
const local = api.DeclNone

// kinds are those of which a name may be.
type kinds []api.DeclKind

func values() kinds { return kinds{api.DeclVar, local} }

func arrays() kinds { return kinds{api.DeclArray} }

// want is of which kinds a statement's names must be; none where there is no such name, or where the statement makes it.
type want struct{ name, with kinds }

func wants() map[api.StmtKind]want {
	mutexes, conds, chans := kinds{api.DeclMutex}, kinds{api.DeclCond}, kinds{api.DeclChan}
	return map[api.StmtKind]want{
		api.StmtSet:    {name: values()},
		api.StmtPut:    {name: arrays()},
		api.StmtLock:   {name: mutexes},
		api.StmtUnlock: {name: mutexes},
		api.StmtWait:   {name: conds, with: mutexes},
		api.StmtSignal: {name: conds},
		api.StmtAll:    {name: conds},
		api.StmtSend:   {name: chans},
		api.StmtRecv:   {name: chans, with: values()},
		api.StmtSpawn:  {name: kinds{api.DeclThread}},
	}
}

"""Documents of each kind, for several tests."""

from stillroom.crates import write_crate
from stillroom.digits import to_base64, to_hex
from stillroom.films import write_film
from stillroom.pictures import write_picture
from stillroom.runs import to_runs
from stillroom.stills import write_still
from stillroom.sums import check_sum
from stillroom.window import squeeze
from filmed import film, frame
from support import drawn_bytes

WHITE = 16777215


def folio(text):
    return list(("%FOL\n" + text + "\n").encode("latin-1"))


def sheet(text):
    return list(("sheet 1\n" + text).encode("latin-1"))


def entry(name, content, method=0, size=None, total=None):
    """An entry whose content can be read, unless another size or sum is told."""
    content = list(content)
    coder = {0: list, 1: to_runs, 2: squeeze, 3: to_hex, 4: to_base64}.get(method, list)
    size = len(content) if size is None else size
    return name, method, size, check_sum(content) if total is None else total, tuple(coder(content))


def crate(*entries):
    return write_crate(list(entries))


def crate_of(**contents):
    """A crate of contents as they are."""
    return crate(*[entry(name, content) for name, content in contents.items()])


def still(*colours):
    """A still of pages of one cell each."""
    return write_still([(1, 1, [colour]) for colour in colours])


def picture(*cells):
    return write_picture((len(cells), 1, list(cells)))


def moving(*colours, delay=1):
    """A film of one cell that has these colours, one after the other."""
    colours = list(colours)
    frames = [frame([at], delay=delay) for at in range(len(colours))]
    return write_film(film(1, 1, *frames, colours=tuple(colours)))


def folio_of(*backs, more="", acts=()):
    """A folio of pages of one cell with these colours, and with scripts on the last page."""
    blocks = "".join(f"<</Kind /Script /Text ({data})>>" for data in acts)
    pages = [f"<</Width 1 /Height 1 /Back {back}>>" for back in backs]
    if pages:
        pages[-1] = pages[-1][:-2] + f" /Body [{blocks}]>>"
    return folio(f"#1 <</Pages [{' '.join(pages)}] {more}>>")


def all_kinds():
    """A document of each kind."""
    return {
        "still": still(5, 6), "picture": picture(7, -1), "film": moving(8, 9), "sheet": sheet('A1 =LINK("a")\nE5 7\n'),
        "folio": folio_of(10, 11, more="/Open (o)", acts=("s",)),
        "crate": crate_of(a=still(12), b=folio_of(13, acts=("t",))),
    }


def drawn_sheet(source):
    contents = ("5", "a", "=A1+1", "=LINK(1)", '=FETCH("x")', '=IF(1,2,LINK("y"))')
    return sheet("".join(f"{name} {source.choice(contents)}\n" for name in source.sample(("A1", "A2", "E1", "P32"), 2)))


def drawn_document(source, room=2):
    """A document of any kind, maybe with more than one kind in it, maybe broken."""
    colours = [source.randint(0, WHITE) for _ in range(source.randint(1, 4))]
    kind = source.choice("still picture film sheet folio crate bytes".split())
    if kind == "crate" and room > 0:
        contents = [drawn_document(source, room - 1) for _ in range(source.randint(0, 3))]
        methods = [source.choice((0, 0, 1, 2, 3, 4, 7)) for _ in contents]
        names = source.sample("abcdef", len(contents))
        found = crate(*[entry(*parts) for parts in zip(names, contents, methods)])
    elif kind == "still":
        found = still(*colours)
    elif kind == "picture":
        found = picture(*source.choices(colours + [-1], k=5))
    elif kind == "film":
        found = moving(*colours, delay=source.choice((0, 1)))
    elif kind == "sheet":
        found = drawn_sheet(source)
    elif kind == "folio":
        found = folio_of(*colours, acts=source.sample("xyz", source.randint(0, 2)))
    else:
        found = drawn_bytes(source, 30)
    if source.random() < 0.3:
        found = found[:source.randint(0, len(found))]
    if source.random() < 0.2:
        found = found + drawn_bytes(source, 9)
    if source.random() < 0.2:
        found = drawn_bytes(source, 9) + found
    return found

"""Reading the streams of folios (point 71)."""

from stillroom.digits import from_base64, from_hex
from stillroom.looking import word_of
from stillroom.rows import unpredict
from stillroom.runs import from_runs
from stillroom.values import follow, get
from stillroom.window import unsqueeze

_FILTERS = ("Hex", "Base", "Runs", "Squeeze", "Rows")
_MOST_FILTERS = 4


def read_stream(book, value, left):
    """The tuple (bytes or None, left) of a value that is followed to a stream."""
    stream, left = follow(book, value, left)
    if stream is None or stream[0] != "stream":
        return None, left
    filters, left = _filters_of(book, stream, left)
    if filters is None:
        return None, left
    data = list(stream[2])
    for name in filters:
        data, left = _filtered(book, stream, name, data, left)
    return data, left


def _filters_of(book, stream, left):
    """The tuple (list of the filters' names, or None if reading fails; left)."""
    held, left = follow(book, get(stream, "Filter"), left)
    if held is None or held[0] == "none":
        return [], left
    items = [held]
    if held[0] == "list":
        if len(held[1]) > _MOST_FILTERS:
            return None, left
        items = []
        for item in held[1]:
            followed, left = follow(book, item, left)
            items.append(followed)
    names = [word_of(item, _FILTERS) for item in items]
    if "" in names:
        return None, left
    return names, left


def _filtered(book, stream, name, data, left):
    """The tuple (bytes, left) of one filter."""
    if name == "Hex":
        return from_hex(data, left)
    if name == "Base":
        return from_base64(data, left)
    if name == "Runs":
        return from_runs(data, left)
    if name == "Squeeze":
        return unsqueeze(data, left)
    width, left = follow(book, get(stream, "Width"), left)
    if width is None or width[0] != "int":
        return unpredict(data, 1, left)
    return unpredict(data, width[1], left)

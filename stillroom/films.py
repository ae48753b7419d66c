"""Films (points 110 to 115)."""

from stillroom.checks import is_integer_from, is_tuple_of
from stillroom.colours import COLOUR_SIZE, is_colour, is_colours, read_colour, read_colours, write_colours
from stillroom.errors import Malformed
from stillroom.fields import read_low_first, stands, write_low_first
from stillroom.frames import HEAD_SIZE, is_frame, read_frame, write_frame
from stillroom.grid import is_side
from stillroom.measure import spend
from stillroom.signs import FILM_SIGN

_GREATEST_TURNS = 65535
_MOST_FRAMES = 1000
_MOST_PAGES = 8

# Where the sides of the canvas, the ground, the number of colours and the colours begin.
_SIDES = 5
_GROUND = 7
_COUNT = 10
_COLOURS = 11

# The kinds of blocks: the codes of i, l and e.
_FRAME = 105
_TURNS = 108
_END = 101
_BLOCK_HEAD_SIZE = 5


def is_film(value):
    """True if the value, of any kind, has the form of a film."""
    if not is_tuple_of(value, 6):
        return False
    width, height, ground, colours, turns, frames = value
    if not is_side(width) or not is_side(height) or not is_colour(ground) or not is_colours(colours):
        return False
    if not is_integer_from(turns, 0, _GREATEST_TURNS):
        return False
    if not isinstance(frames, tuple) or len(frames) > _MOST_FRAMES:
        return False
    return all([is_frame(frame) for frame in frames])


def write_film(film):
    """The byte list of a film. Raises Malformed if it is none."""
    if not is_film(film):
        raise Malformed("not a film")
    width, height, ground, colours, turns, frames = film
    found = list(FILM_SIGN) + [width, height] + write_colours([ground])
    found.extend([len(colours)] + write_colours(colours))
    if turns != 0:
        found.extend(_block(_TURNS, write_low_first(turns, 2)))
    for frame in frames:
        found.extend(_block(_FRAME, write_frame(frame)))
    return found + _block(_END, [])


def _block(kind, data):
    return [kind] + write_low_first(len(data), 4) + data


def read_film(data, left):
    """The tuple (film or None, left)."""
    if not stands(data, 0, FILM_SIGN) or len(data) < _COLOURS:
        return None, left
    width, height = data[_SIDES:_GROUND]
    if not is_side(width) or not is_side(height):
        return None, left
    left, enough = spend(left, len(data))
    if not enough:
        return None, left
    end = _COLOURS + COLOUR_SIZE * data[_COUNT]
    colours = tuple(read_colours(data[_COLOURS:end]))
    turns, frames, left = _read_blocks(data, end, left)
    if frames is None:
        return None, left
    return (width, height, read_colour(data[_GROUND:_COUNT]), colours, turns, frames), left


def _read_blocks(data, at, left):
    """The tuple (turns, frames or None, left) of the blocks from the place on."""
    turns = 0
    frames = []
    while len(frames) < _MOST_FRAMES and at + _BLOCK_HEAD_SIZE <= len(data):
        kind = data[at]
        begin = at + _BLOCK_HEAD_SIZE
        at = begin + read_low_first(data[at + 1:begin])
        block = data[begin:at]
        if kind == _END:
            break
        if kind == _TURNS and len(block) >= 2:
            turns = read_low_first(block[:2])
        elif kind == _FRAME and len(block) >= HEAD_SIZE:
            frame, left = read_frame(block, left)
            if frame is None:
                return 0, None, left
            frames.append(frame)
    return turns, tuple(frames), left


def compose(film, left):
    """The tuple (list of grids, left): the canvas with each frame."""
    grids = []
    canvas = _empty_canvas(film)
    for frame in film[5]:
        shown, canvas, left = _with_frame(film, frame, canvas, left)
        if shown is None:
            break
        grids.append(shown)
    return grids, left


def film_pages(data, left):
    """The tuple (list of grids, left): the canvases of a written film that are seen."""
    film, left = read_film(data, left)
    pages = []
    if film is None:
        return pages, left
    frames = film[5]
    canvas = _empty_canvas(film)
    for at, frame in enumerate(frames):
        shown, canvas, left = _with_frame(film, frame, canvas, left)
        if shown is None:
            break
        is_held = frame[7] != 0 or at == len(frames) - 1
        if is_held and shown not in pages[-1:]:
            pages.append(shown)
        if len(pages) == _MOST_PAGES:
            break
    return pages, left


def _empty_canvas(film):
    width, height, ground, _, _, _ = film
    return [ground] * (width * height)


def _with_frame(film, frame, canvas, left):
    """The tuple (the grid with the frame, or None if its cost is too great; the canvas
    for the next frame; left)."""
    left, enough = spend(left, 1 + len(canvas))
    if not enough:
        return None, canvas, left
    _, _, _, _, own, clear, after, _, indexes = frame
    colours = film[3] if own is None else own
    places = _shared_places(film, frame)
    cells = list(canvas)
    for place, at in places:
        index = indexes[at]
        if index != clear and index < len(colours):
            cells[place] = colours[index]
    if after == 0:
        canvas = cells
    elif after == 1:
        canvas = list(cells)
        for place, _ in places:
            canvas[place] = film[2]
    return (film[0], film[1], cells), canvas, left


def _shared_places(film, frame):
    """For each cell of the frame that lies on the canvas, the tuple of its places in
    the canvas and in the frame."""
    x, y, width, height = frame[:4]
    columns = [column for column in range(width) if 0 <= x + column < film[0]]
    rows = [row for row in range(height) if 0 <= y + row < film[1]]
    return [((y + row) * film[0] + x + column, row * width + column) for row in rows for column in columns]

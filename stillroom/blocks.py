"""The blocks Picture and Sealed (point 138)."""

from stillroom.marks import moved_right, plate
from stillroom.pictures import read_picture

_SIDES = (1, 64)
_GREY = 8421504


def lay_picture(layout, block, across, y):
    """The tuple (marks, end) of a Picture that begins at the height y."""
    source = layout.key(block, "From")
    if source[0] == "text":
        layout.add_act("fetch", source[1])
    data = layout.stream(layout.key(block, "Data"))
    grid = None if data is None else layout.read(read_picture, data)
    if grid is None:
        return [], y
    width = 4 * layout.number(block, "Width", _SIDES, grid[0])
    height = 4 * layout.number(block, "Height", _SIDES, grid[1])
    align = layout.style(block)[4]
    x = across[0] + moved_right(align, across[1] - across[0] - width)
    return [("image", layout.page_box, grid, (x, y, x + width, y + height))], y + height


def lay_sealed(layout, block, across, y):
    """The same for a Sealed."""
    x = across[0]
    width = 4 * layout.number(block, "Width", _SIDES, 8)
    end = y + 4 * layout.number(block, "Height", _SIDES, 2)
    return [plate(layout.page_box, (x, y, x + width, end), _GREY)], end

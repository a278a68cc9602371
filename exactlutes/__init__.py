"""Intervals made of 2, 3, 5 and 7 to fractional powers, told and compared exactly."""
